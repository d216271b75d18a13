/-
  The contracts of value's hasOnly, isFormed, isNamed. · The contracts of value's isFormed and isNamed. · Plain mathematics of numbers as bytes, of no program: zig and zag, seven digits a byte. · Values as bytes, over lists: what is written, what is read, and that these belong together. No program is named.
-/
import Derived.Test.YtpfiejmhnkcjbaaGreatDoorFG0x
import Derived.Laws.BitsAllLaws
import Derived.Laws.DeepNot64
namespace Go.Proofs.YtpfiejmhnkcjbaaGreatDoor
open Go.RowKit
set_option linter.unusedVariables false
def only (h : Hd) (kl : Nat) (F : Int) : Bool :=
  (F = 1 || F = 3 || decide (h.n = 0)) && (F = 3 || decide (h.s = 0)) && (F = 4 || h.t.toList.isEmpty) && (F = 24 || decide (h.ns.length = 0)) && (F = 16 || F = 24 || decide (kl = 0))
set_option maxRecDepth 8000 in
set_option maxHeartbeats 2000000 in
theorem only_any (h : Hd) (na : Option Addr) (nc : Nat) (ka : Option Addr) (kl kc : Nat) (F : Int) (hF : F = 0 ∨ F = 1 ∨ F = 3 ∨ F = 4 ∨ F = 16 ∨ F = 24) (w : World) :
    Calls Tryz.prog 181 #[.agg #[.int .i64 h.k, .int .i64 h.n, .int .i64 h.s, .string h.t, .slice na h.ns.length nc, .slice ka kl kc], .int .u64 F] w fun e w' => e = .returned (.bool (only h kl F)) ∧ Below w.heap.size w w' := by
  have HF : Hid _ := hF
  clear hF
  go_enter Tryz.func181, Tryz.ntmps181
  go_wp2
  all_goals
    go_ret
    refine ⟨?_, (Below.refl _ _).alloc (Nat.le_refl _) _⟩
    unfold only
    cases hte : h.t.toList.isEmpty <;> rcases HF.out with rfl | rfl | rfl | rfl | rfl | rfl <;> simp_all <;> decide
end Go.Proofs.YtpfiejmhnkcjbaaGreatDoor
namespace Go.Proofs.YtpfiejmhnkcjbaaGreatDoor
open Go.RowKit
set_option linter.unusedVariables false
theorem box_get {w w' : World} (vs : List Value) (t : TypeId) (hb : Below (w.alloc (.cells vs.toArray t)).heap.size (w.alloc (.cells vs.toArray t)) w') (j : Nat) (v : Value) (hv : vs[j]? = some v) : w'.cell? ⟨w.heap.size, j, none⟩ = some v := by
  rw [hb.cell (p := ⟨w.heap.size, j, none⟩) (by simp), World.cell?_alloc_new, List.getElem?_toArray, hv]
theorem box_below {w w' : World} (o : Obj) (hb : Below (w.alloc o).heap.size (w.alloc o) w') : Below w.heap.size w w' :=
  ((Below.refl _ _).alloc (Nat.le_refl _) _).trans (hb.mono (by simp))
def formed (h : Hd) (kl : Nat) : Bool :=
  if h.k = 1 then only h kl 0
  else if h.k = 2 then only h kl 1 && (h.n == 0 || h.n == 1)
  else if h.k = 3 then only h kl 1
  else if h.k = 4 then only h kl 3 && decide (1 ≤ h.s) && decide (h.s ≤ 18) && (h.n.tmod 10 != 0)
  else if h.k = 5 then only h kl 1 && decide (0 ≤ h.n) && decide (h.n ≤ 9007199254740992)
  else if h.k = 6 then only h kl 4
  else if h.k = 7 then only h kl 4
  else if h.k = 8 then only h kl 16
  else if h.k = 9 then only h kl 24
  else false
set_option maxRecDepth 8000 in
set_option maxHeartbeats 2000000 in
theorem formed_any (h : Hd) (na : Option Addr) (nc : Nat) (ka : Option Addr) (kl kc : Nat) (w : World) :
    Calls Tryz.prog 173 #[.agg #[.int .i64 h.k, .int .i64 h.n, .int .i64 h.s, .string h.t, .slice na h.ns.length nc, .slice ka kl kc]] w fun e w' => e = .returned (.bool (formed h kl)) ∧ Below w.heap.size w w' := by
  go_enter Tryz.func173, Tryz.ntmps173
  go_wp2_with (go_at_call 181; go_must (refine (only_any h na nc ka kl kc _ (by simp) _).mono ?_; rintro e w' ⟨rfl, hb⟩; have c1 := box_get (six h na nc ka kl kc) 41 hb 1 _ rfl; have c2 := box_get (six h na nc ka kl kc) 41 hb 2 _ rfl; have HB : Hid (Below w.heap.size w w') := box_below _ hb; clear hb))
  all_goals
    go_ret
    refine ⟨?_, by first | exact HB.out | exact (Below.refl _ _).alloc (Nat.le_refl _) _⟩
    simp_all [formed] <;> (intros; omega)
def rises : ByteArray → List ByteArray → Bool
  | _, [] => true
  | l, x :: r => !(Op.bytesLess x.toList l.toList || x.toList == l.toList) && !(decide (40 < x.size)) && rises x r
def named (ns : List ByteArray) (kl : Nat) : Bool := decide (ns.length = kl) && rises ⟨#[]⟩ ns
set_option maxRecDepth 8000 in
set_option maxHeartbeats 2000000 in
theorem named_any (h : Hd) (na : Option Addr) (nc : Nat) (ka : Option Addr) (kl kc : Nat) (w : World) (hn : Nms w na h.ns) (hl : h.ns.length ≤ 140737488355328) (he : ∀ x ∈ h.ns, x.size ≤ 140737488355328) :
    Calls Tryz.prog 174 #[.agg #[.int .i64 h.k, .int .i64 h.n, .int .i64 h.s, .string h.t, .slice na h.ns.length nc, .slice ka kl kc]] w fun e w' => e = .returned (.bool (named h.ns kl)) ∧ Below w.heap.size w w' := by
  have HN : Hid (Nms w na h.ns) := hn
  clear hn
  go_enter Tryz.func174, Tryz.ntmps174
  by_cases hE : h.ns.length = kl
  case neg =>
    have hd : ((h.ns.length : Int) != (kl : Int)) = true := by simp; omega
    go_wp2
    go_ret
    exact ⟨by simp [named, hE], (Below.refl _ _).alloc (Nat.le_refl _) _⟩
  subst hE
  go_wp2
  have HN1 : Hid (Nms (w.alloc (.cells #[.int .i64 h.k, .int .i64 h.n, .int .i64 h.s, .string h.t, .slice na h.ns.length nc, .slice ka h.ns.length kc] 41)) na h.ns) := HN.out.below ((Below.refl _ _).alloc (Nat.le_refl _) _)
  have HB : Hid (Below w.heap.size w (w.alloc (.cells #[.int .i64 h.k, .int .i64 h.n, .int .i64 h.s, .string h.t, .slice na h.ns.length nc, .slice ka h.ns.length kc] 41))) := (Below.refl _ _).alloc (Nat.le_refl _) _
  generalize w.alloc (.cells #[.int .i64 h.k, .int .i64 h.n, .int .i64 h.s, .string h.t, .slice na h.ns.length nc, .slice ka h.ns.length kc] 41) = w1 at *
  go_loopw [3, 5, 16] (fun l x i wr => ∃ k : Nat, k ≤ h.ns.length ∧ i = .int .i64 (k : Int) ∧ ∃ last, l = .string last ∧ wr = w1 ∧ Hid (named h.ns h.ns.length = rises last (h.ns.drop k))) (fun _ _ i _ => h.ns.length - (intOf i).toNat)
  case atStart => exact ⟨0, by omega, rfl, _, rfl, rfl, by show _ = _; simp [named]⟩
  case round =>
    obtain ⟨k, hk, rfl, last, rfl, rfl, HR⟩ := hrel
    by_cases hlt : k < h.ns.length
    case neg =>
      go_wp2
      go_ret
      exact ⟨by rw [HR.out, List.drop_of_length_le (by omega)]; rfl, HB.out⟩
    obtain ⟨x, hx⟩ : ∃ x, h.ns[k]? = some x := ⟨_, List.getElem?_eq_getElem hlt⟩
    have hxs : x.size ≤ 140737488355328 := he x (List.mem_of_getElem? hx)
    have HD : Hid (h.ns.drop k = x :: h.ns.drop (k + 1)) := by
      have := List.drop_eq_getElem_cons hlt
      rw [List.getElem?_eq_getElem hlt] at hx
      show _ = _
      rw [this, Option.some.inj hx]
    rcases HN1.out with e | ⟨b, o, rfl, hc⟩
    · simp [e] at hlt
    have c := hc k x hx
    clear hc hx
    cases hA : Op.bytesLess x.toList last.toList <;> cases hB : (x.toList == last.toList) <;> by_cases hC : 40 < x.size
    rotate_left
    · go_wp2
      go_roundw
      case rel =>
        refine ⟨k + 1, by omega, by go_num, x, rfl, trivial, ?_⟩
        show _ = _
        rw [HR.out, HD.out]
        simp [rises, hA, hB, hC]
      case measure => simp [intOf]; omega
    all_goals
      go_wp2
      go_ret
      exact ⟨by rw [HR.out, HD.out]; simp [rises, hA, hB, hC], HB.out⟩
def own (h : Hd) (kl : Nat) : Int := if formed h kl = true then (if 16384 < h.t.size ∨ 200 < kl then 5 else if h.k = 9 ∧ named h.ns kl = false then 3 else 0) else 3
/-- The first error of values that stand so deep. -/
def chk : Fo → Int → Int
  | .nil, _ => 0
  | .cons h k r, d => if (if 16 < d then 9 else if own h k.list.length ≠ 0 then own h k.list.length else chk k (d + 1)) ≠ 0 then (if 16 < d then 9 else if own h k.list.length ≠ 0 then own h k.list.length else chk k (d + 1)) else chk r d
def chkV (p : Vt) (d : Int) : Int := if 16 < d then 9 else if own p.1 p.2.list.length ≠ 0 then own p.1 p.2.list.length else chk p.2 (d + 1)
theorem chk_cons (p : Vt) (r : Fo) (d : Int) : chk (.cons p.1 p.2 r) d = if chkV p d ≠ 0 then chkV p d else chk r d := rfl
def Fo.drop : Nat → Fo → Fo
  | 0, f => f
  | _ + 1, .nil => .nil
  | n + 1, .cons _ _ r => Fo.drop n r
theorem Fo.drop_at : ∀ (f : Fo) (i : Nat) (p : Vt), f.list[i]? = some p → f.drop i = .cons p.1 p.2 (f.drop (i + 1))
  | .nil, i, p, h => by simp [Fo.list] at h
  | .cons hd k r, 0, p, h => by
    simp only [Fo.list, List.getElem?_cons_zero, Option.some.injEq] at h
    subst h
    cases r <;> rfl
  | .cons hd k r, i + 1, p, h => by
    simp only [Fo.list, List.getElem?_cons_succ] at h
    have := Fo.drop_at r i p h
    simp only [Fo.drop]
    exact this
theorem Fo.drop_end : ∀ (f : Fo) (i : Nat), f.list.length ≤ i → f.drop i = .nil
  | .nil, 0, _ => rfl
  | .nil, i + 1, _ => rfl
  | .cons hd k r, 0, h => by simp [Fo.list] at h
  | .cons hd k r, i + 1, h => Fo.drop_end r i (by simpa [Fo.list] using h)
end Go.Proofs.YtpfiejmhnkcjbaaGreatDoor
namespace Go.Proofs.YtpfiejmhnkcjbaaGreatDoor.Math

/-! ### zig and zag -/
def zigS (v : Int) : Int := if 0 ≤ v then 2 * v else 2 * -(v + 1) + 1
def zagS (u : Int) : Int := if u % 2 = 0 then u / 2 else -(u / 2) - 1
theorem zag_zig (v : Int) : zagS (zigS v) = v := by
  unfold zagS zigS; split <;> split <;> omega
theorem zig_bd (v : Int) (h1 : -9223372036854775808 ≤ v) (h2 : v ≤ 9223372036854775807) : 0 ≤ zigS v ∧ zigS v ≤ 18446744073709551615 := by
  unfold zigS; split <;> omega
theorem xor_ones (a : Nat) (ha : a < 18446744073709551616) : a ^^^ 18446744073709551615 = 18446744073709551615 - a := by
  have h : (BitVec.ofNat 64 a ^^^ BitVec.allOnes 64).toNat = (~~~ (BitVec.ofNat 64 a)).toNat := by rw [BitVec.xor_allOnes]
  rw [BitVec.toNat_xor, BitVec.toNat_not, BitVec.toNat_ofNat, BitVec.toNat_allOnes, Nat.mod_eq_of_lt (by omega)] at h
  simpa using h
theorem zig_bits (v : Int) (h1 : -9223372036854775808 ≤ v) (h2 : v ≤ 9223372036854775807) :
    bits .xor .u64 (IntKind.u64.wrap (IntKind.u64.wrap v * 2)) (IntKind.u64.wrap (v / 9223372036854775808)) = zigS v := by
  simp only [IntKind.wrap_u64]
  unfold zigS
  by_cases h : 0 ≤ v
  · rw [if_pos h, show v / 9223372036854775808 = 0 by omega]
    rw [u64_xor _ _ (by omega) (by omega) (by omega) (by omega)]
    simp
    omega
  · rw [if_neg h, show v / 9223372036854775808 = -1 by omega]
    rw [u64_xor _ _ (by omega) (by omega) (by omega) (by omega)]
    rw [show ((-1 : Int) % 18446744073709551616).toNat = 18446744073709551615 by decide, xor_ones _ (by omega)]
    omega
/-! ### seven digits a byte -/
def acc (v x k : Nat) : Nat := v ||| (x % 128 * 2 ^ (7 * k) % 18446744073709551616)
/-- A number in seven digits a byte, at most f + 1 of them. -/
def uvF : Nat → Nat → List Nat
  | 0, v => [v]
  | f + 1, v => if v < 128 then [v] else (v % 128 + 128) :: uvF f (v / 128)
theorem uvF_eq : ∀ (f g v : Nat), v ≤ f → v ≤ g → uvF f v = uvF g v
  | 0, 0, _, _, _ => rfl
  | 0, g + 1, v, h, _ => by
    obtain rfl : v = 0 := by omega
    rfl
  | f + 1, 0, v, _, h => by
    obtain rfl : v = 0 := by omega
    rfl
  | f + 1, g + 1, v, h, h' => by
    simp only [uvF]
    by_cases hv : v < 128
    · rw [if_pos hv, if_pos hv]
    · rw [if_neg hv, if_neg hv, uvF_eq f g (v / 128) (by omega) (by omega)]
/-- A number in seven digits a byte. -/
def uv (v : Nat) : List Nat := uvF v v
theorem uv_lo (v : Nat) (h : v < 128) : uv v = [v] := by
  unfold uv
  cases v with
  | zero => rfl
  | succ v => simp only [uvF]; rw [if_pos h]
theorem uv_hi (v : Nat) (h : ¬ v < 128) : uv v = (v % 128 + 128) :: uv (v / 128) := by
  unfold uv
  cases v with
  | zero => omega
  | succ v => simp only [uvF]; rw [if_neg h, uvF_eq v ((v + 1) / 128) ((v + 1) / 128) (by omega) (by omega)]
theorem uv_len (n v : Nat) (h : v < 128 ^ (n + 1)) : (uv v).length ≤ n + 1 := by
  induction n generalizing v with
  | zero => rw [uv_lo v (by simpa using h)]; simp
  | succ n ih =>
    by_cases hv : v < 128
    · rw [uv_lo v hv]; simp
    · rw [uv_hi v hv]
      have := ih (v / 128) (by rw [Nat.div_lt_iff_lt_mul (by decide)]; rw [Nat.pow_succ] at h; exact h)
      simpa using this
theorem uv_pos (v : Nat) : 0 < (uv v).length := by
  by_cases hv : v < 128
  · rw [uv_lo v hv]; simp
  · rw [uv_hi v hv]; simp
theorem uv_ten (v : Nat) (h : v < 18446744073709551616) : (uv v).length ≤ 10 := uv_len 9 v (Nat.lt_of_lt_of_le h (by decide))
theorem or_128 : ∀ y, y < 256 → y ||| 128 = y % 128 + 128 := by decide +kernel
theorem or_u8 (u : Nat) : bits .or .u8 ((u : Int) % 256) 128 = ((u % 128 + 128 : Nat) : Int) := by
  have h := u8_or_nat (u % 256) 128 (by omega) (by omega)
  rw [or_128 _ (by omega)] at h
  rw [show ((u : Int) % 256) = ((u % 256 : Nat) : Int) by omega]
  refine Eq.trans h ?_
  congr 1; omega
end Go.Proofs.YtpfiejmhnkcjbaaGreatDoor.Math
namespace Go.Proofs.YtpfiejmhnkcjbaaGreatDoor
open Go.RowKit Math
set_option linter.unusedVariables false
def Oct (l : List Nat) : Prop := ∀ x ∈ l, x < 256
theorem Oct.app {l m : List Nat} (h : Oct l) (g : Oct m) : Oct (l ++ m) := fun x hx => by
  rcases List.mem_append.1 hx with hx | hx
  · exact h x hx
  · exact g x hx
/-! ### readers -/
/-! ### bytes, numbers, texts -/
def bts (s : ByteArray) : List Nat := s.data.toList.map UInt8.toNat
def ofB (l : List Nat) : ByteArray := ⟨(l.map UInt8.ofNat).toArray⟩
theorem bts_len (s : ByteArray) : (bts s).length = s.size := by simp [bts]
theorem bts_oct (s : ByteArray) : ∀ x ∈ bts s, x < 256 := fun x hx => by
  obtain ⟨y, _, rfl⟩ := List.mem_map.1 hx
  exact y.toNat_lt
theorem ofB_bts (s : ByteArray) : ofB (bts s) = s := by
  unfold ofB bts
  rw [List.map_map]
  have : (UInt8.ofNat ∘ UInt8.toNat) = id := by funext x; simp
  rw [this]
  simp
theorem bts_ofB (l : List Nat) (h : ∀ x ∈ l, x < 256) : bts (ofB l) = l := by
  unfold ofB bts
  simp only [List.map_map]
  conv => rhs; rw [← List.map_id l]
  apply List.map_congr_left
  intro x hx
  have := h x hx
  simp
  omega
theorem ofB_size (l : List Nat) : (ofB l).size = l.length := by
  have : (ofB l).size = (ofB l).data.toList.length := by simp
  rw [this]
  simp [ofB]
end Go.Proofs.YtpfiejmhnkcjbaaGreatDoor
