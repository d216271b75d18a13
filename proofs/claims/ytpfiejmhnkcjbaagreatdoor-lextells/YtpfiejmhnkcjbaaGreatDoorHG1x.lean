/-
   ·  ·  ·  ·  ·  ·  ·  ·  · 
-/
import Derived.Test.YtpfiejmhnkcjbaaGreatDoorHG0x
import Derived.Laws.BitsAllLaws
import Derived.Laws.DeepNot64
import Derived.Test.YtpfiejmhnkcjbaaGreatDoorRows
import Derived.WalkKit
import Derived.WalkSpells
import Derived.StillTactics
import Derived.Laws.Pointers
import Derived.RowKit3
import Derived.Below
import Derived.Deep.QuietTactic
import Derived.BigQuiet
import Derived.WalkSmall
import Derived.Laws.AppendOwnNone
import Derived.OpenShut
namespace Go.Proofs.YtpfiejmhnkcjbaaGreatDoor
set_option maxHeartbeats 2000000
set_option maxRecDepth 8000
open Go.RowKit
set_option linter.unusedVariables false
def only (h : Hd) (kl : Nat) (F : Int) : Bool :=
 (F = 1 || F = 3 || decide (h.n = 0)) && (F = 3 || decide (h.s = 0)) && (F = 4 || h.t.toList.isEmpty) && (F = 24 || decide (h.ns.length = 0)) && (F = 16 || F = 24 || decide (kl = 0))
theorem only_any (h : Hd) (na : Option Addr) (nc : Nat) (ka : Option Addr) (kl kc : Nat) (F : Int) (hF : F = 0 ∨ F = 1 ∨ F = 3 ∨ F = 4 ∨ F = 16 ∨ F = 24) (w : World) :
 Calls Tryz.prog 181 #[.agg #[.int .i64 h.k, .int .i64 h.n, .int .i64 h.s, .string h.t, .slice na h.ns.length nc, .slice ka kl kc], .int .u64 F] w fun e w' => e = .returned (.bool (only h kl F)) /\ Below w.heap.size w w' := by
 have HF : Hid _ := hF
 clear hF
 go_enter Tryz.func181, Tryz.ntmps181
 go_wp2
 all_goals
  go_ret
  refine ⟨?_, (Below.refl _ _).alloc (Nat.le_refl _) _⟩
  unfold only
  cases hte : h.t.toList.isEmpty <;> rcases HF.out with rfl | rfl | rfl | rfl | rfl | rfl <;> simp_all <;> decide
end Go.Proofs.YtpfiejmhnkcjbaaGreatDoor
namespace Go.Proofs.YtpfiejmhnkcjbaaGreatDoor
set_option maxHeartbeats 2000000
set_option maxRecDepth 8000
open Go.RowKit
set_option linter.unusedVariables false
theorem box_get {w w' : World} (vs : List Value) (t : TypeId) (hb : Below (w.alloc (.cells vs.toArray t)).heap.size (w.alloc (.cells vs.toArray t)) w') (j : Nat) (v : Value) (hv : vs[j]? = some v) : w'.cell? ⟨w.heap.size, j, none⟩ = some v := by
 rw [hb.cell (p := ⟨w.heap.size, j, none⟩) (by simp), World.cell?_alloc_new, List.getElem?_toArray, hv]
theorem box_below {w w' : World} (o : Obj) (hb : Below (w.alloc o).heap.size (w.alloc o) w') : Below w.heap.size w w' :=
 ((Below.refl _ _).alloc (Nat.le_refl _) _).trans (hb.mono (by simp))
def formed (h : Hd) (kl : Nat) : Bool :=
 if h.k = 1 then only h kl 0
 else if h.k = 2 then only h kl 1 && (h.n == 0 || h.n == 1)
 else if h.k = 3 then only h kl 1
 else if h.k = 4 then only h kl 3 && decide (1 <= h.s) && decide (h.s <= 18) && (h.n.tmod 10 != 0)
 else if h.k = 5 then only h kl 1 && decide (0 <= h.n) && decide (h.n <= 9007199254740992)
 else if h.k = 6 then only h kl 4
 else if h.k = 7 then only h kl 4
 else if h.k = 8 then only h kl 16
 else if h.k = 9 then only h kl 24
 else false
theorem formed_any (h : Hd) (na : Option Addr) (nc : Nat) (ka : Option Addr) (kl kc : Nat) (w : World) :
 Calls Tryz.prog 173 #[.agg #[.int .i64 h.k, .int .i64 h.n, .int .i64 h.s, .string h.t, .slice na h.ns.length nc, .slice ka kl kc]] w fun e w' => e = .returned (.bool (formed h kl)) /\ Below w.heap.size w w' := by
 go_enter Tryz.func173, Tryz.ntmps173
 go_wp2_with (go_at_call 181; go_must (refine (only_any h na nc ka kl kc _ (by simp) _).mono ?_; rintro e w' ⟨rfl, hb⟩; have c1 := box_get (six h na nc ka kl kc) 41 hb 1 _ rfl; have c2 := box_get (six h na nc ka kl kc) 41 hb 2 _ rfl; have HB : Hid (Below w.heap.size w w') := box_below _ hb; clear hb))
 all_goals
  go_ret
  refine ⟨?_, by first | exact HB.out | exact (Below.refl _ _).alloc (Nat.le_refl _) _⟩
  simp_all [formed] <;> (intros; omega)
def rises : ByteArray -> List ByteArray -> Bool
 | _, [] => true
 | l, x :: r => !(Op.bytesLess x.toList l.toList || x.toList == l.toList) && !(decide (40 < x.size)) && rises x r
def named (ns : List ByteArray) (kl : Nat) : Bool := decide (ns.length = kl) && rises ⟨#[]⟩ ns
theorem named_any (h : Hd) (na : Option Addr) (nc : Nat) (ka : Option Addr) (kl kc : Nat) (w : World) (hn : Nms w na h.ns) (hl : h.ns.length <= 140737488355328) (he : ∀ x ∈ h.ns, x.size <= 140737488355328) :
 Calls Tryz.prog 174 #[.agg #[.int .i64 h.k, .int .i64 h.n, .int .i64 h.s, .string h.t, .slice na h.ns.length nc, .slice ka kl kc]] w fun e w' => e = .returned (.bool (named h.ns kl)) /\ Below w.heap.size w w' := by
 have HN : Hid (Nms w na h.ns) := hn
 clear hn
 go_enter Tryz.func174, Tryz.ntmps174
 by_cases hE : h.ns.length = kl
 case neg =>
  have hd : ((h.ns.length : Int) != (kl : Int)) = true := by simp; omega
  go_wp2
  go_ret
  exact ⟨by simp [named, hE], (Below.refl _ _).alloc (Nat.le_refl _) _⟩
 subst hE
 go_wp2
 have HN1 : Hid (Nms (w.alloc (.cells #[.int .i64 h.k, .int .i64 h.n, .int .i64 h.s, .string h.t, .slice na h.ns.length nc, .slice ka h.ns.length kc] 41)) na h.ns) := HN.out.below ((Below.refl _ _).alloc (Nat.le_refl _) _)
 have HB : Hid (Below w.heap.size w (w.alloc (.cells #[.int .i64 h.k, .int .i64 h.n, .int .i64 h.s, .string h.t, .slice na h.ns.length nc, .slice ka h.ns.length kc] 41))) := (Below.refl _ _).alloc (Nat.le_refl _) _
 generalize w.alloc (.cells #[.int .i64 h.k, .int .i64 h.n, .int .i64 h.s, .string h.t, .slice na h.ns.length nc, .slice ka h.ns.length kc] 41) = w1 at *
 go_loopw [3, 5, 16] (fun l x i wr => ∃ k : Nat, k <= h.ns.length /\ i = .int .i64 (k : Int) /\ ∃ last, l = .string last /\ wr = w1 /\ Hid (named h.ns h.ns.length = rises last (h.ns.drop k))) (fun _ _ i _ => h.ns.length - (intOf i).toNat)
 case atStart => exact ⟨0, by omega, rfl, _, rfl, rfl, by show _ = _; simp [named]⟩
 case round =>
  obtain ⟨k, hk, rfl, last, rfl, rfl, HR⟩ := hrel
  by_cases hlt : k < h.ns.length
  case neg =>
   go_wp2
   go_ret
   exact ⟨by rw [HR.out, List.drop_of_length_le (by omega)]; rfl, HB.out⟩
  obtain ⟨x, hx⟩ : ∃ x, h.ns[k]? = some x := ⟨_, List.getElem?_eq_getElem hlt⟩
  have hxs : x.size <= 140737488355328 := he x (List.mem_of_getElem? hx)
  have HD : Hid (h.ns.drop k = x :: h.ns.drop (k + 1)) := by
   have := List.drop_eq_getElem_cons hlt
   rw [List.getElem?_eq_getElem hlt] at hx
   show _ = _
   rw [this, Option.some.inj hx]
  rcases HN1.out with e | ⟨b, o, rfl, hc⟩
  . simp [e] at hlt
  have c := hc k x hx
  clear hc hx
  cases hA : Op.bytesLess x.toList last.toList <;> cases hB : (x.toList == last.toList) <;> by_cases hC : 40 < x.size
  rotate_left
  . go_wp2
    go_roundw
    case rel =>
     refine ⟨k + 1, by omega, by go_num, x, rfl, trivial, ?_⟩
     show _ = _
     rw [HR.out, HD.out]
     simp [rises, hA, hB, hC]
    case measure => simp [intOf]; omega
  all_goals
   go_wp2
   go_ret
   exact ⟨by rw [HR.out, HD.out]; simp [rises, hA, hB, hC], HB.out⟩
def own (h : Hd) (kl : Nat) : Int := if formed h kl = true then (if 16384 < h.t.size ∨ 200 < kl then 5 else if h.k = 9 /\ named h.ns kl = false then 3 else 0) else 3
def chk : Fo -> Int -> Int
 | .nil, _ => 0
 | .cons h k r, d => if (if 16 < d then 9 else if own h k.list.length ≠ 0 then own h k.list.length else chk k (d + 1)) ≠ 0 then (if 16 < d then 9 else if own h k.list.length ≠ 0 then own h k.list.length else chk k (d + 1)) else chk r d
def chkV (p : Vt) (d : Int) : Int := if 16 < d then 9 else if own p.1 p.2.list.length ≠ 0 then own p.1 p.2.list.length else chk p.2 (d + 1)
theorem chk_cons (p : Vt) (r : Fo) (d : Int) : chk (.cons p.1 p.2 r) d = if chkV p d ≠ 0 then chkV p d else chk r d := rfl
def Fo.drop : Nat -> Fo -> Fo
 | 0, f => f
 | _ + 1, .nil => .nil
 | n + 1, .cons _ _ r => Fo.drop n r
theorem Fo.drop_at : ∀ (f : Fo) (i : Nat) (p : Vt), f.list[i]? = some p -> f.drop i = .cons p.1 p.2 (f.drop (i + 1))
 | .nil, i, p, h => by simp [Fo.list] at h
 | .cons hd k r, 0, p, h => by
   simp only [Fo.list, List.getElem?_cons_zero, Option.some.injEq] at h
   subst h
   cases r <;> rfl
 | .cons hd k r, i + 1, p, h => by
   simp only [Fo.list, List.getElem?_cons_succ] at h
   have := Fo.drop_at r i p h
   simp only [Fo.drop]
   exact this
theorem Fo.drop_end : ∀ (f : Fo) (i : Nat), f.list.length <= i -> f.drop i = .nil
 | .nil, 0, _ => rfl
 | .nil, i + 1, _ => rfl
 | .cons hd k r, 0, h => by simp [Fo.list] at h
 | .cons hd k r, i + 1, h => Fo.drop_end r i (by simpa [Fo.list] using h)
end Go.Proofs.YtpfiejmhnkcjbaaGreatDoor
namespace Go.Proofs.YtpfiejmhnkcjbaaGreatDoor.Math
def zigS (v : Int) : Int := if 0 <= v then 2 * v else 2 * -(v + 1) + 1
def zagS (u : Int) : Int := if u % 2 = 0 then u / 2 else -(u / 2) - 1
theorem zag_zig (v : Int) : zagS (zigS v) = v := by
 unfold zagS zigS; split <;> split <;> omega
theorem zig_bd (v : Int) (h1 : -9223372036854775808 <= v) (h2 : v <= 9223372036854775807) : 0 <= zigS v /\ zigS v <= 18446744073709551615 := by
 unfold zigS; split <;> omega
theorem xor_ones (a : Nat) (ha : a < 18446744073709551616) : a ^^^ 18446744073709551615 = 18446744073709551615 - a := by
 have h : (BitVec.ofNat 64 a ^^^ BitVec.allOnes 64).toNat = (~~~ (BitVec.ofNat 64 a)).toNat := by rw [BitVec.xor_allOnes]
 rw [BitVec.toNat_xor, BitVec.toNat_not, BitVec.toNat_ofNat, BitVec.toNat_allOnes, Nat.mod_eq_of_lt (by omega)] at h
 simpa using h
theorem zig_bits (v : Int) (h1 : -9223372036854775808 <= v) (h2 : v <= 9223372036854775807) :
 bits .xor .u64 (IntKind.u64.wrap (IntKind.u64.wrap v * 2)) (IntKind.u64.wrap (v / 9223372036854775808)) = zigS v := by
 simp only [IntKind.wrap_u64]
 unfold zigS
 by_cases h : 0 <= v
 . rw [if_pos h, show v / 9223372036854775808 = 0 by omega]
   rw [u64_xor _ _ (by omega) (by omega) (by omega) (by omega)]
   simp
   omega
 . rw [if_neg h, show v / 9223372036854775808 = -1 by omega]
   rw [u64_xor _ _ (by omega) (by omega) (by omega) (by omega)]
   rw [show ((-1 : Int) % 18446744073709551616).toNat = 18446744073709551615 by decide, xor_ones _ (by omega)]
   omega
def acc (v x k : Nat) : Nat := v ||| (x % 128 * 2 ^ (7 * k) % 18446744073709551616)
def uvF : Nat -> Nat -> List Nat
 | 0, v => [v]
 | f + 1, v => if v < 128 then [v] else (v % 128 + 128) :: uvF f (v / 128)
theorem uvF_eq : ∀ (f g v : Nat), v <= f -> v <= g -> uvF f v = uvF g v
 | 0, 0, _, _, _ => rfl
 | 0, g + 1, v, h, _ => by
   obtain rfl : v = 0 := by omega
   rfl
 | f + 1, 0, v, _, h => by
   obtain rfl : v = 0 := by omega
   rfl
 | f + 1, g + 1, v, h, h' => by
   simp only [uvF]
   by_cases hv : v < 128
   . rw [if_pos hv, if_pos hv]
   . rw [if_neg hv, if_neg hv, uvF_eq f g (v / 128) (by omega) (by omega)]
def uv (v : Nat) : List Nat := uvF v v
theorem uv_lo (v : Nat) (h : v < 128) : uv v = [v] := by
 unfold uv
 cases v with
 | zero => rfl
 | succ v => simp only [uvF]; rw [if_pos h]
theorem uv_hi (v : Nat) (h : ¬ v < 128) : uv v = (v % 128 + 128) :: uv (v / 128) := by
 unfold uv
 cases v with
 | zero => omega
 | succ v => simp only [uvF]; rw [if_neg h, uvF_eq v ((v + 1) / 128) ((v + 1) / 128) (by omega) (by omega)]
theorem uv_len (n v : Nat) (h : v < 128 ^ (n + 1)) : (uv v).length <= n + 1 := by
 induction n generalizing v with
 | zero => rw [uv_lo v (by simpa using h)]; simp
 | succ n ih =>
   by_cases hv : v < 128
   . rw [uv_lo v hv]; simp
   . rw [uv_hi v hv]
     have := ih (v / 128) (by rw [Nat.div_lt_iff_lt_mul (by decide)]; rw [Nat.pow_succ] at h; exact h)
     simpa using this
theorem uv_pos (v : Nat) : 0 < (uv v).length := by
 by_cases hv : v < 128
 . rw [uv_lo v hv]; simp
 . rw [uv_hi v hv]; simp
theorem uv_ten (v : Nat) (h : v < 18446744073709551616) : (uv v).length <= 10 := uv_len 9 v (Nat.lt_of_lt_of_le h (by decide))
theorem or_128 : ∀ y, y < 256 -> y ||| 128 = y % 128 + 128 := by decide +kernel
theorem or_u8 (u : Nat) : bits .or .u8 ((u : Int) % 256) 128 = ((u % 128 + 128 : Nat) : Int) := by
 have h := u8_or_nat (u % 256) 128 (by omega) (by omega)
 rw [or_128 _ (by omega)] at h
 rw [show ((u : Int) % 256) = ((u % 256 : Nat) : Int) by omega]
 refine Eq.trans h ?_
 congr 1; omega
theorem or_t (t : Nat) (ht : t < 128) : bits .or .u8 (t : Int) 128 = ((t + 128 : Nat) : Int) := by
 have h := u8_or_nat t 128 (by omega) (by omega)
 rw [or_128 _ (by omega), Nat.mod_eq_of_lt ht] at h
 exact h
theorem and_127 (u : Nat) (hu : u < 18446744073709551616) : bits .and .u64 (u : Int) 127 = ((u % 128 : Nat) : Int) := by
 have h := u64_and_nat u 127 hu (by omega)
 rw [nat_mask7] at h
 exact h
end Go.Proofs.YtpfiejmhnkcjbaaGreatDoor.Math
namespace Go.Proofs.YtpfiejmhnkcjbaaGreatDoor
open Go.RowKit Math
set_option linter.unusedVariables false
def Oct (l : List Nat) : Prop := ∀ x ∈ l, x < 256
theorem Oct.app {l m : List Nat} (h : Oct l) (g : Oct m) : Oct (l ++ m) := fun x hx => by
 rcases List.mem_append.1 hx with hx | hx
 . exact h x hx
 . exact g x hx
def bts (s : ByteArray) : List Nat := s.data.toList.map UInt8.toNat
def ofB (l : List Nat) : ByteArray := ⟨(l.map UInt8.ofNat).toArray⟩
theorem bts_len (s : ByteArray) : (bts s).length = s.size := by simp [bts]
theorem bts_oct (s : ByteArray) : ∀ x ∈ bts s, x < 256 := fun x hx => by
 obtain ⟨y, _, rfl⟩ := List.mem_map.1 hx
 exact y.toNat_lt
theorem ofB_bts (s : ByteArray) : ofB (bts s) = s := by
 unfold ofB bts
 rw [List.map_map]
 have : (UInt8.ofNat ∘ UInt8.toNat) = id := by funext x; simp
 rw [this]
 simp
theorem bts_ofB (l : List Nat) (h : ∀ x ∈ l, x < 256) : bts (ofB l) = l := by
 unfold ofB bts
 simp only [List.map_map]
 conv => rhs; rw [<- List.map_id l]
 apply List.map_congr_left
 intro x hx
 have := h x hx
 simp
 omega
theorem ofB_size (l : List Nat) : (ofB l).size = l.length := by
 have : (ofB l).size = (ofB l).data.toList.length := by simp
 rw [this]
 simp [ofB]
end Go.Proofs.YtpfiejmhnkcjbaaGreatDoor
namespace Go.Proofs.YtpfiejmhnkcjbaaGreatDoor
open Go.RowKit Math
set_option linter.unusedVariables false
def dpF : Fo -> Nat
 | .nil => 0
 | .cons _ k r => max (1 + dpF k) (dpF r)
def dpV (p : Vt) : Nat := 1 + dpF p.2
def chk0 : Fo -> Int
 | .nil => 0
 | .cons h k r => if (if own h k.list.length ≠ 0 then own h k.list.length else chk0 k) ≠ 0 then (if own h k.list.length ≠ 0 then own h k.list.length else chk0 k) else chk0 r
def chk0V (p : Vt) : Int := if own p.1 p.2.list.length ≠ 0 then own p.1 p.2.list.length else chk0 p.2
theorem chk_flat : ∀ (f : Fo) (d : Int), d + (dpF f : Int) <= 17 -> chk f d = chk0 f
 | .nil, d, _ => rfl
 | .cons h k r, d, hd => by
   simp only [dpF] at hd
   have e1 := chk_flat k (d + 1) (by omega)
   have e2 := chk_flat r d (by omega)
   simp only [chk, chk0]
   rw [if_neg (show ¬ 16 < d by omega), e1, e2]
theorem chkV_flat (p : Vt) (d : Int) (hd : d + (dpV p : Int) <= 17) : chkV p d = chk0V p := by
 unfold dpV at hd
 unfold chkV chk0V
 rw [if_neg (by omega), chk_flat p.2 (d + 1) (by omega)]
theorem chk0_cons (p : Vt) (r : Fo) : chk0 (.cons p.1 p.2 r) = if chk0V p ≠ 0 then chk0V p else chk0 r := rfl
theorem deep_of : ∀ (f : Fo) (d : Int), d <= 17 -> chk f d = 0 -> d + (dpF f : Int) <= 17
 | .nil, d, hd, _ => by simp [dpF]; exact hd
 | .cons h k r, d, hd, hc => by
   simp only [chk] at hc
   by_cases h16 : 16 < d
   . rw [if_pos h16] at hc
     simp at hc
   rw [if_neg h16] at hc
   by_cases h1 : own h k.list.length = 0
   . simp only [h1, ne_eq, not_true_eq_false, if_false] at hc
     by_cases h2 : chk k (d + 1) = 0
     . simp only [h2, not_true_eq_false, if_false] at hc
       have a := deep_of k (d + 1) (by omega) h2
       have b := deep_of r d hd hc
       simp only [dpF]
       omega
     . simp [h2] at hc
   . simp [h1] at hc
theorem deepV_of (p : Vt) (d : Int) (hc : chkV p d = 0) : d + (dpV p : Int) <= 17 := by
 unfold chkV at hc
 by_cases h16 : 16 < d
 . rw [if_pos h16] at hc; cases hc
 rw [if_neg h16] at hc
 by_cases h1 : own p.1 p.2.list.length = 0
 . simp only [h1, ne_eq, not_true_eq_false, if_false] at hc
   have := deep_of p.2 (d + 1) (by omega) hc
   unfold dpV
   omega
 . simp [h1] at hc
def txB (s : ByteArray) : List Nat := uv s.size ++ bts s
def bodyB (h : Hd) (kl : Nat) : List Nat :=
 if h.k = 2 then [h.n.toNat] else if h.k = 3 then uv (zigS h.n).toNat else if h.k = 4 then uv (zigS h.n).toNat ++ [h.s.toNat] else if h.k = 5 then uv h.n.toNat
 else if h.k = 6 then txB h.t else if h.k = 7 then txB h.t else if h.k = 8 then uv kl else if h.k = 9 then uv kl else []
def headB (h : Hd) (kl : Nat) : List Nat := h.k.toNat :: bodyB h kl
def enc : Fo -> Bool -> List ByteArray -> List Nat
 | .nil, _, _ => []
 | .cons h k r, b, ns => ((if b then txB (ns.headD ⟨#[]⟩) else []) ++ (headB h k.list.length ++ enc k (decide (h.k = 9)) h.ns)) ++ enc r b ns.tail
def encV (p : Vt) : List Nat := headB p.1 p.2.list.length ++ enc p.2 (decide (p.1.k = 9)) p.1.ns
theorem enc_cons (p : Vt) (r : Fo) (b : Bool) (ns : List ByteArray) : enc (.cons p.1 p.2 r) b ns = ((if b then txB (ns.headD ⟨#[]⟩) else []) ++ encV p) ++ enc r b ns.tail := rfl
abbrev em : ByteArray := ⟨#[]⟩
def lf (k n s : Int) (t : ByteArray) : Vt := (⟨k, n, s, t, []⟩, .nil)
structure Fine (h : Hd) (kl : Nat) : Prop where
 form : formed h kl = true
 t : h.t.size <= 16384
 c : kl <= 200
 nm : h.k = 9 -> named h.ns kl = true
theorem own_fine {h : Hd} {kl : Nat} (e : own h kl = 0) : Fine h kl := by
 unfold own at e
 split at e
 . next hf =>
   split at e
   . cases e
   . next h2 =>
     split at e
     . cases e
     . next h3 =>
       refine ⟨hf, by omega, by omega, fun h9 => ?_⟩
       cases hn : named h.ns kl with
       | true => rfl
       | false => exact absurd ⟨h9, hn⟩ h3
 . cases e
theorem em_of {t : ByteArray} (h : t.toList.isEmpty = true) : t = em := by
 rw [ByteArray.toList_eq] at h
 cases t with
 | mk d =>
   cases d with
   | mk l =>
     cases l with
     | nil => rfl
     | cons a l => simp at h
theorem fo_nil {f : Fo} (h : f.list.length = 0) : f = .nil := by
 cases f with
 | nil => rfl
 | cons h k r => simp [Fo.list] at h
theorem leaf_of {p : Vt} {F : Int} (h : only p.1 p.2.list.length F = true) (hF : F ≠ 16) (hF2 : F ≠ 24) : p.1.ns = [] /\ p.2 = .nil /\ (F ≠ 4 -> p.1.t = em) /\ (F ≠ 3 -> p.1.s = 0) /\ (F ≠ 1 -> F ≠ 3 -> p.1.n = 0) := by
 simp only [only, Bool.and_eq_true, Bool.or_eq_true, decide_eq_true_eq] at h
 obtain ⟨⟨⟨⟨h1, h2⟩, h3⟩, h4⟩, h5⟩ := h
 refine ⟨?_, ?_, fun hf => ?_, fun hf => ?_, fun ha hb => ?_⟩
 . rcases h4 with h4 | h4
   . exact absurd h4 hF2
   . exact List.eq_nil_of_length_eq_zero h4
 . rcases h5 with (h5 | h5) | h5
   . exact absurd h5 hF
   . exact absurd h5 hF2
   . exact fo_nil h5
 . rcases h3 with h3 | h3
   . exact absurd h3 hf
   . exact em_of h3
 . rcases h2 with h2 | h2
   . exact absurd h2 hf
   . exact h2
 . rcases h1 with (h1 | h1) | h1
   . exact absurd h1 ha
   . exact absurd h1 hb
   . exact h1
end Go.Proofs.YtpfiejmhnkcjbaaGreatDoor
namespace Go.Proofs.YtpfiejmhnkcjbaaGreatDoor
open Go.RowKit Math
set_option linter.unusedVariables false
theorem names_len {ns : List ByteArray} {kl : Nat} (h : named ns kl = true) : ns.length = kl /\ ∀ x ∈ ns, x.size <= 40 := by
 simp only [named, Bool.and_eq_true, decide_eq_true_eq] at h
 refine ⟨h.1, ?_⟩
 have : ∀ (l : List ByteArray) (a : ByteArray), rises a l = true -> ∀ x ∈ l, x.size <= 40 := by
  intro l
  induction l with
  | nil => intro a _ x hx; cases hx
  | cons y l ih =>
    intro a h x hx
    simp only [rises, Bool.and_eq_true, Bool.not_eq_true', decide_eq_false_iff_not] at h
    rcases List.mem_cons.1 hx with rfl | hx
    . omega
    . exact ih y h.2 x hx
 exact this ns _ h.2
theorem chk0_mem : ∀ {f : Fo} {p : Vt}, chk0 f = 0 -> p ∈ f.list -> chk0V p = 0
 | .cons h k r, p, hc, hp => by
   have e : chk0 (.cons h k r) = if chk0V (h, k) ≠ 0 then chk0V (h, k) else chk0 r := rfl
   rw [e] at hc
   by_cases h0 : chk0V (h, k) = 0
   . rw [if_neg (by simpa using h0)] at hc
     rcases List.mem_cons.1 hp with rfl | hp
     . exact h0
     . exact chk0_mem hc hp
   . rw [if_pos h0] at hc
     exact absurd hc h0
theorem zig_nat (n : Int) (h1 : -9223372036854775808 <= n) (h2 : n < 9223372036854775808) : (zigS n).toNat < 18446744073709551616 /\ zagS ((zigS n).toNat : Int) = n := by
 have := zig_bd n h1 (by omega)
 refine ⟨by omega, ?_⟩
 rw [Int.toNat_of_nonneg this.1, zag_zig]
end Go.Proofs.YtpfiejmhnkcjbaaGreatDoor
namespace Go.Proofs.YtpfiejmhnkcjbaaGreatDoor
open Go.RowKit Math
set_option linter.unusedVariables false
theorem own_of0 {p : Vt} (h : chk0V p = 0) : own p.1 p.2.list.length = 0 /\ chk0 p.2 = 0 := by
 by_cases ho : own p.1 p.2.list.length = 0
 . rw [chk0V, if_neg (by simpa using ho)] at h
   exact ⟨ho, h⟩
 . rw [chk0V, if_pos ho] at h
   exact absurd h ho
end Go.Proofs.YtpfiejmhnkcjbaaGreatDoor
namespace Go.Proofs.YtpfiejmhnkcjbaaGreatDoor
open Go.RowKit Math
def Cells (w : World) (b off : Nat) (l : List Nat) : Prop := ∀ i, i < l.length -> w.cell? ⟨b, off + i, none⟩ = some (.int .u8 ((l.getD i 0 : Nat) : Int))
def Byt (w : World) (a : Option Addr) (l : List Nat) : Prop := l = [] ∨ ∃ b off, a = some ⟨b, off, none⟩ /\ Cells w b off l
end Go.Proofs.YtpfiejmhnkcjbaaGreatDoor
namespace Go.Proofs.YtpfiejmhnkcjbaaGreatDoor
open Go.RowKit Go.ChangeShapes Go.WideShapes Math
theorem Tryz.info5 : (Tryz.prog.info? 5).map (fun i => (i.zero, i.size, i.bytes)) = some (some (.int .u8 0), 1, 1) := by kernel_rfl
def vals (l : List Nat) : List Value := l.map fun n : Nat => Value.int .u8 (n : Int)
theorem vals_length (l : List Nat) : (vals l).length = l.length := by simp [vals]
theorem vals_get (l : List Nat) (i : Nat) (h : i < l.length) : (vals l)[i]? = some (.int .u8 ((l.getD i 0 : Nat) : Int)) := by
 simp [vals, List.getD_eq_getElem?_getD, List.getElem?_eq_getElem h]
theorem vals_one (l : List Nat) : ∀ u ∈ vals l, u.oneCell' = true := by
 intro u hu
 obtain ⟨_, _, rfl⟩ := List.mem_map.1 hu
 rfl
def Own (w : World) (base : Nat) (v : Value) (l : List Nat) : Prop := w.ownsRow base 5 1 v l.length (vals l)
theorem app_bytes {ops : Array Oper} {rest : List Oper} {o : Oper} {a : Act} {Q : Exit -> Act -> World -> Prop} {w : World} (hgd : o.guard = none) (s x : Operand)
 (ho : o.op = .call { callee := .builtin .append, args := #[s, x], argTypes := #[34, 34] })
 (base : Nat) (v : Value) (l : List Nat) (hs : a.eval s = v) (hown : Own w base v l)
 (ax : Option Addr) (m c : Nat) (l2 : List Nat) (hm : m = l2.length) (hx : a.eval x = .slice ax m c) (hsrc : Byt w ax l2) (hnil : ax = none -> c = 0)
 (hb : l.length + l2.length <= 1000000) (hbase : base <= w.heap.size)
 (h : ∀ v' w', Own w' base v' (l ++ l2) -> w.grownBy w' v.ownBlock -> wpList Tryz.prog ops Q rest (a.put o.dst v') w') : wpList Tryz.prog ops Q (o :: rest) a w := by
 subst hm
 obtain ⟨i, hi, hz0, hz1, hz2⟩ := info_parts Tryz.info5
 cases ax with
 | none =>
   obtain rfl := hnil rfl
   have hl : l2 = [] := by
    rcases hsrc with h | ⟨_, _, h, _⟩
    . exact h
    . cases h
   subst hl
   refine wpList_append_own_none hgd s x 34 ho base 5 i 1 Tryz.underlying34 hi v _ _ hs hown hx (h v w ?_ (World.grownBy.refl _ _))
   simpa using hown
 | some ad =>
   refine wpList_append_own _ hgd s x 34 ho base 5 i (.int .u8 0) 1 1 Tryz.underlying34 hi hz0 hz1 hz2 rfl (by decide) v _ _ hs hown ad l2.length c (vals l2) hx (by simp [vals_length]) ?_ (vals_one l2) (by unfold maxLen; omega) (by omega) hbase ?_
   . intro j u hj
     have hjl : j < l2.length := by
      have := (List.getElem?_eq_some_iff.1 hj).1
      simpa [vals_length] using this
     rcases hsrc with rfl | ⟨b, off, he, hc⟩
     . simp at hjl
     . obtain rfl := Option.some.inj he
       rw [vals_get l2 j hjl] at hj
       rw [Addr.add_lit, hc j hjl]
       exact hj
   . intro v' w' h1 h2 _
     refine h v' w' ?_ h2
     unfold Own
     rw [List.length_append, show vals (l ++ l2) = vals l ++ vals l2 by simp [vals]]
     exact h1
theorem byt_lit (w : World) (l : List Nat) : Byt (w.alloc (.cells (vals l).toArray 5)) (some ⟨w.heap.size, 0, none⟩) l := by
 refine .inr ⟨_, _, rfl, fun i hi => ?_⟩
 rw [Nat.zero_add, World.cell?_alloc_new, List.getElem?_toArray, vals_get l i hi]
theorem Own.alloc {w : World} {base : Nat} {v : Value} {l : List Nat} (h : Own w base v l) (o : Obj) : Own (w.alloc o) base v l := World.ownsRow.alloc h o
theorem below_app {B : Nat} {w0 w w' : World} {v : Value} {l : List Nat} (hb : Below B w0 w) (hB : B <= w.heap.size) (h : Own w B v l) (hg : w.grownBy w' v.ownBlock) : Below B w0 w' :=
 hb.grown hg hB fun k hk => (World.ownsRow.lt h k hk).1
end Go.Proofs.YtpfiejmhnkcjbaaGreatDoor
namespace Go.Proofs.YtpfiejmhnkcjbaaGreatDoor
set_option maxHeartbeats 400000
set_option maxRecDepth 8000
open Go.RowKit Math
theorem uv_any (v : Nat) (hv : v < 18446744073709551616) (w : World) :
 Calls Tryz.prog 176 #[.int .u64 v] w fun e w' => ∃ r, e = .returned r /\ Own w' w.heap.size r (uv v) /\ Below w.heap.size w w' := by
 have h10 := uv_ten v hv
 go_enter Tryz.func176, Tryz.ntmps176
 go_wp2
 go_loopw [0, 3] (fun x o wr => ∃ (u : Nat) (pre : List Nat), x = .int .u64 u /\ u < 18446744073709551616 /\ Hid (uv v = pre ++ uv u) /\ Own wr w.heap.size o pre /\ Below w.heap.size w wr) (fun x _ _ => (intOf x).toNat)
 case atStart => exact ⟨v, [], rfl, hv, rfl, World.ownsRow_nil _ _ _ _, Below.refl _ _⟩
 case round =>
  obtain ⟨u, pre, rfl, hu, HE, hown, hbel⟩ := hrel
  have hs := hbel.size
  have hlen : pre.length + 1 <= 10 := by
   have := congrArg List.length HE.out
   have h1 := uv_pos u
   simp at this; omega
  by_cases h127 : u < 128
  . have HF : Hid (uv v = pre ++ [u]) := by show _ = _; rw [HE.out, uv_lo u (by omega)]
    go_wp2_with (at_builtin; go_must (refine app_bytes rfl (.tmp 14) (.tmp 17) rfl w.heap.size _ pre rfl (hown.alloc _) _ _ _ [u] rfl rfl (byt_lit wr [u]) (by simp) (by simp; omega) (by simp; omega) ?_))
    intro v1 w1 o1 g1
    have b1 := below_app (hbel.alloc hs _) (by simp; omega) (hown.alloc _) g1
    clear g1 hown
    go_wp2
    go_ret
    exact ⟨v1, rfl, by rw [HF.out]; exact o1, b1⟩
  . obtain ⟨y, hy, HY⟩ : ∃ y : Nat, bits .or .u8 ((u : Int) % 256) 128 = (y : Int) /\ Hid (y = u % 128 + 128) := ⟨_, or_u8 u, rfl⟩
    have HF : Hid (uv v = (pre ++ [y]) ++ uv (u / 128)) := by show _ = _; rw [HE.out, uv_hi u (by omega), HY.out, List.append_assoc]; rfl
    go_wp2_with (at_builtin; go_must (refine app_bytes rfl (.tmp 6) (.tmp 10) rfl w.heap.size _ pre rfl (hown.alloc _) _ _ _ [y] rfl rfl (byt_lit wr [y]) (by simp) (by simp; omega) (by simp; omega) ?_))
    intro v1 w1 o1 g1
    have b1 := below_app (hbel.alloc hs _) (by simp; omega) (hown.alloc _) g1
    clear g1 hown hy
    go_wp2
    go_roundw
    case rel => exact ⟨u / 128, pre ++ [y], by go_num, by omega, HF, o1, b1⟩
    case measure => simp [intOf]; omega
theorem uvr_any (v : Nat) (hv : v < 18446744073709551616) (w : World) :
 Calls Tryz.prog 146 #[.int .u64 v] w fun e w' => ∃ r, e = .returned r /\ Own w' w.heap.size r (uv v) /\ Below w.heap.size w w' := by
 have h10 := uv_ten v hv
 go_enter Tryz.func146, Tryz.ntmps146
 go_wp2
 go_loopw [0, 3] (fun x o wr => ∃ (u : Nat) (pre : List Nat), x = .int .u64 u /\ u < 18446744073709551616 /\ Hid (uv v = pre ++ uv u) /\ Own wr w.heap.size o pre /\ Below w.heap.size w wr) (fun x _ _ => (intOf x).toNat)
 case atStart => exact ⟨v, [], rfl, hv, rfl, World.ownsRow_nil _ _ _ _, Below.refl _ _⟩
 case round =>
  obtain ⟨u, pre, rfl, hu, HE, hown, hbel⟩ := hrel
  have hs := hbel.size
  have hlen : pre.length + 1 <= 10 := by
   have := congrArg List.length HE.out
   have h1 := uv_pos u
   simp at this; omega
  by_cases h127 : u < 128
  . have HF : Hid (uv v = pre ++ [u]) := by show _ = _; rw [HE.out, uv_lo u (by omega)]
    go_wp2_with (at_builtin; go_must (refine app_bytes rfl (.tmp 15) (.tmp 18) rfl w.heap.size _ pre rfl (hown.alloc _) _ _ _ [u] rfl rfl (byt_lit wr [u]) (by simp) (by simp; omega) (by simp; omega) ?_))
    intro v1 w1 o1 g1
    have b1 := below_app (hbel.alloc hs _) (by simp; omega) (hown.alloc _) g1
    clear g1 hown
    go_wp2
    go_ret
    exact ⟨v1, rfl, by rw [HF.out]; exact o1, b1⟩
  . obtain ⟨t, ht, ht128, HT⟩ : ∃ t : Nat, bits .and .u64 (u : Int) 127 = (t : Int) /\ t < 128 /\ Hid (t = u % 128) := ⟨_, and_127 u hu, by omega, rfl⟩
    obtain ⟨y, hy, HY⟩ : ∃ y : Nat, bits .or .u8 (t : Int) 128 = (y : Int) /\ Hid (y = u % 128 + 128) := ⟨_, or_t t ht128, by show _ = _; rw [HT.out]⟩
    have HF : Hid (uv v = (pre ++ [y]) ++ uv (u / 128)) := by show _ = _; rw [HE.out, uv_hi u (by omega), HY.out, List.append_assoc]; rfl
    go_wp2_with (at_builtin; go_must (refine app_bytes rfl (.tmp 6) (.tmp 11) rfl w.heap.size _ pre rfl (hown.alloc _) _ _ _ [y] rfl rfl (byt_lit wr [y]) (by simp) (by simp; omega) (by simp; omega) ?_))
    intro v1 w1 o1 g1
    have b1 := below_app (hbel.alloc hs _) (by simp; omega) (hown.alloc _) g1
    clear g1 hown hy
    go_wp2
    go_roundw
    case rel => exact ⟨u / 128, pre ++ [y], by go_num, by omega, HF, o1, b1⟩
    case measure => simp [intOf]; omega
end Go.Proofs.YtpfiejmhnkcjbaaGreatDoor
