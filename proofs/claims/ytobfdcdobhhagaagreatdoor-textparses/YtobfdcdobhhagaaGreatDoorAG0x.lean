/-
   ·  ·  ·  ·  ·  ·  · 
-/
import Derived.Test.YtobfdcdobhhagaaGreatDoorRows
import Derived.WalkKit
import Derived.WalkSpells
import Derived.StillTactics
import Derived.Laws.Pointers
import Derived.RowKit3
import Derived.Below
import Derived.Deep.QuietTactic
import Derived.BigQuiet
import Derived.WalkSmall
import Derived.OpenShut
import Derived.Laws.Cover1
import Derived.Laws.Strings
import Derived.Deep.Matrix
import Derived.Deep.Slices
import Derived.SizedLaws
import Derived.ProofKit
import Derived.Laws.BitsAllLaws
import Derived.Laws.DeepNot64
namespace Go.Proofs.YtobfdcdobhhagaaGreatDoor
open Go.RowKit
set_option linter.unusedVariables false
structure Hd where
 k : Int
 n : Int
 s : Int
 t : ByteArray
 ns : List ByteArray
inductive Fo where
 | nil : Fo
 | cons (h : Hd) (kids rest : Fo) : Fo
abbrev Vt := Hd × Fo
def Fo.list : Fo -> List Vt
 | .nil => []
 | .cons h k r => (h, k) :: r.list
def Fo.wt : Fo -> Nat
 | .nil => 0
 | .cons _ k r => 1 + k.wt + r.wt
def wt (p : Vt) : Nat := 1 + p.2.wt
theorem wt_mem {p : Vt} : ∀ {f : Fo}, p ∈ f.list -> wt p <= f.wt
 | .cons h k r, hp => by
   simp only [Fo.list, List.mem_cons] at hp
   simp only [Fo.wt]
   rcases hp with rfl | hp
   . simp only [wt]; omega
   . have := wt_mem hp; omega
theorem wt_kid {p q : Vt} (h : p ∈ q.2.list) : wt p < wt q := by
 have := wt_mem h
 show wt p < 1 + q.2.wt
 omega
structure Hok (h : Hd) : Prop where
 k0 : -9223372036854775808 <= h.k
 k1 : h.k < 9223372036854775808
 n0 : -9223372036854775808 <= h.n
 n1 : h.n < 9223372036854775808
 s0 : -9223372036854775808 <= h.s
 s1 : h.s < 9223372036854775808
 t1 : h.t.size <= 140737488355328
 c1 : h.ns.length <= 140737488355328
 e1 : ∀ x ∈ h.ns, x.size <= 140737488355328
def Wf : Fo -> Prop
 | .nil => True
 | .cons h k r => (Hok h /\ k.list.length <= 140737488355328 /\ Wf k) /\ Wf r
def WfV (p : Vt) : Prop := Hok p.1 /\ p.2.list.length <= 140737488355328 /\ Wf p.2
theorem wf_mem {p : Vt} : ∀ {f : Fo}, Wf f -> p ∈ f.list -> WfV p
 | .cons h k r, hw, hp => by
   simp only [Fo.list, List.mem_cons] at hp
   rcases hp with rfl | hp
   . exact hw.1
   . exact wf_mem hw.2 hp
theorem WfV.kid {p q : Vt} (h : WfV q) (hp : p ∈ q.2.list) : WfV p := wf_mem h.2.2 hp
def six (h : Hd) (na : Option Addr) (nc : Nat) (ka : Option Addr) (kl kc : Nat) : List Value :=
 [.int .i64 h.k, .int .i64 h.n, .int .i64 h.s, .string h.t, .slice na h.ns.length nc, .slice ka kl kc]
structure Nd (w : World) (b o : Nat) (h : Hd) (na : Option Addr) (nc : Nat) (ka : Option Addr) (kl kc : Nat) : Prop where
 c0 : w.cell? ⟨b, o, none⟩ = some (.int .i64 h.k)
 c1 : w.cell? ⟨b, o + 1, none⟩ = some (.int .i64 h.n)
 c2 : w.cell? ⟨b, o + 2, none⟩ = some (.int .i64 h.s)
 c3 : w.cell? ⟨b, o + 3, none⟩ = some (.string h.t)
 c4 : w.cell? ⟨b, o + 4, none⟩ = some (.slice na h.ns.length nc)
 c5 : w.cell? ⟨b, o + 5, none⟩ = some (.slice ka kl kc)
def Nms (w : World) (a : Option Addr) (ns : List ByteArray) : Prop := ns = [] ∨ ∃ b o, a = some ⟨b, o, none⟩ /\ ∀ i x, ns[i]? = some x -> w.cell? ⟨b, o + i, none⟩ = some (.string x)
structure Cap (a : Option Addr) (len cap : Nat) : Prop where
 le : len <= cap
 nil : a = none -> cap = 0
 max : cap <= 9223372036854775807
def At (w : World) : Fo -> Nat -> Nat -> Prop
 | .nil, _, _ => True
 | .cons h k r, b, o => (∃ na nc ka kc, Nd w b o h na nc ka k.list.length kc /\ Nms w na h.ns /\ Cap na h.ns.length nc /\ (k = .nil ∨ ∃ b' o', ka = some ⟨b', o', none⟩ /\ At w k b' o') /\ Cap ka k.list.length kc) /\ At w r b (o + 6)
def Slc (w : World) (a : Option Addr) (f : Fo) : Prop := f = .nil ∨ ∃ b o, a = some ⟨b, o, none⟩ /\ At w f b o
structure Vl (w : World) (p : Vt) (na : Option Addr) (nc : Nat) (ka : Option Addr) (kc : Nat) : Prop where
 nms : Nms w na p.1.ns
 nc : Cap na p.1.ns.length nc
 slc : Slc w ka p.2
 kc : Cap ka p.2.list.length kc
def NdV (w : World) (b o : Nat) (p : Vt) : Prop := ∃ na nc ka kc, Nd w b o p.1 na nc ka p.2.list.length kc /\ Vl w p na nc ka kc
theorem At.get {w : World} {b : Nat} {p : Vt} : ∀ {f : Fo} {o i : Nat}, At w f b o -> f.list[i]? = some p -> NdV w b (o + i * 6) p
 | .cons h k r, o, 0, ha, hi => by
   simp only [Fo.list, List.getElem?_cons_zero, Option.some.injEq] at hi
   subst hi
   obtain ⟨⟨na, nc, ka, kc, h1, h2, h3, h4, h5⟩, _⟩ := ha
   exact ⟨na, nc, ka, kc, by simpa using h1, h2, h3, h4, h5⟩
 | .cons h k r, o, i + 1, ha, hi => by
   simp only [Fo.list, List.getElem?_cons_succ] at hi
   have := At.get ha.2 hi
   rw [show o + 6 + i * 6 = o + (i + 1) * 6 by omega] at this
   exact this
theorem Slc.get {w : World} {a : Option Addr} {f : Fo} (h : Slc w a f) {i : Nat} {p : Vt} (hp : f.list[i]? = some p) : ∃ b o, a = some ⟨b, o, none⟩ /\ NdV w b (o + i * 6) p := by
 rcases h with rfl | ⟨b, o, e, ha⟩
 . simp [Fo.list] at hp
 . exact ⟨b, o, e, ha.get hp⟩
theorem cell_lt {w : World} {b o : Nat} {v : Value} (h : w.cell? ⟨b, o, none⟩ = some v) : b < w.heap.size := by
 apply Nat.lt_of_not_le; intro hle
 have : w.heap[b]? = none := Array.getElem?_eq_none hle
 simp [World.cell?, this] at h
theorem Nd.below {w w' : World} {b o : Nat} {h : Hd} {na ka : Option Addr} {nc kl kc : Nat} (g : Nd w b o h na nc ka kl kc) (hb : Below w.heap.size w w') : Nd w' b o h na nc ka kl kc :=
 ⟨(hb.cell (p := ⟨b, o, none⟩) (cell_lt g.c0)).trans g.c0, (hb.cell (p := ⟨b, o + 1, none⟩) (cell_lt g.c1)).trans g.c1, (hb.cell (p := ⟨b, o + 2, none⟩) (cell_lt g.c2)).trans g.c2,
  (hb.cell (p := ⟨b, o + 3, none⟩) (cell_lt g.c3)).trans g.c3, (hb.cell (p := ⟨b, o + 4, none⟩) (cell_lt g.c4)).trans g.c4, (hb.cell (p := ⟨b, o + 5, none⟩) (cell_lt g.c5)).trans g.c5⟩
theorem Nms.below {w w' : World} {a : Option Addr} {ns : List ByteArray} (h : Nms w a ns) (hb : Below w.heap.size w w') : Nms w' a ns := by
 rcases h with h | ⟨b, o, e, h⟩
 . exact .inl h
 . exact .inr ⟨b, o, e, fun i x hx => (hb.cell (p := ⟨b, o + i, none⟩) (cell_lt (h i x hx))).trans (h i x hx)⟩
theorem At.below {w w' : World} (hb : Below w.heap.size w w') : ∀ {f : Fo} {b o : Nat}, At w f b o -> At w' f b o
 | .nil, _, _, _ => trivial
 | .cons h k r, b, o, ha => by
   obtain ⟨⟨na, nc, ka, kc, h1, h2, h3, h4, h5⟩, h6⟩ := ha
   refine ⟨⟨na, nc, ka, kc, h1.below hb, h2.below hb, h3, ?_, h5⟩, At.below hb h6⟩
   rcases h4 with h4 | ⟨b', o', e, h4⟩
   . exact .inl h4
   . exact .inr ⟨b', o', e, At.below hb h4⟩
theorem Slc.below {w w' : World} {a : Option Addr} {f : Fo} (h : Slc w a f) (hb : Below w.heap.size w w') : Slc w' a f := by
 rcases h with h | ⟨b, o, e, h⟩
 . exact .inl h
 . exact .inr ⟨b, o, e, h.below hb⟩
theorem Vl.below {w w' : World} {p : Vt} {na ka : Option Addr} {nc kc : Nat} (h : Vl w p na nc ka kc) (hb : Below w.heap.size w w') : Vl w' p na nc ka kc :=
 ⟨h.nms.below hb, h.nc, h.slc.below hb, h.kc⟩
open Go.ChangeShapes Go.WideShapes Go.Deep
end Go.Proofs.YtobfdcdobhhagaaGreatDoor
namespace Go.Proofs.YtobfdcdobhhagaaGreatDoor
set_option maxHeartbeats 2000000
set_option maxRecDepth 8000
open Go.RowKit
set_option linter.unusedVariables false
def only (h : Hd) (kl : Nat) (F : Int) : Bool :=
 (F = 1 || F = 3 || decide (h.n = 0)) && (F = 3 || decide (h.s = 0)) && (F = 4 || h.t.toList.isEmpty) && (F = 24 || decide (h.ns.length = 0)) && (F = 16 || F = 24 || decide (kl = 0))
theorem only_any (h : Hd) (na : Option Addr) (nc : Nat) (ka : Option Addr) (kl kc : Nat) (F : Int) (hF : F = 0 ∨ F = 1 ∨ F = 3 ∨ F = 4 ∨ F = 16 ∨ F = 24) (w : World) :
 Calls Tryz.prog 123 #[.agg #[.int .i64 h.k, .int .i64 h.n, .int .i64 h.s, .string h.t, .slice na h.ns.length nc, .slice ka kl kc], .int .u64 F] w fun e w' => e = .returned (.bool (only h kl F)) /\ Below w.heap.size w w' := by
 have HF : Hid _ := hF
 clear hF
 go_enter Tryz.func123, Tryz.ntmps123
 go_wp2
 all_goals
  go_ret
  refine ⟨?_, (Below.refl _ _).alloc (Nat.le_refl _) _⟩
  unfold only
  cases hte : h.t.toList.isEmpty <;> rcases HF.out with rfl | rfl | rfl | rfl | rfl | rfl <;> simp_all <;> decide
end Go.Proofs.YtobfdcdobhhagaaGreatDoor
namespace Go.Proofs.YtobfdcdobhhagaaGreatDoor
set_option maxHeartbeats 2000000
set_option maxRecDepth 8000
open Go.RowKit
set_option linter.unusedVariables false
theorem box_get {w w' : World} (vs : List Value) (t : TypeId) (hb : Below (w.alloc (.cells vs.toArray t)).heap.size (w.alloc (.cells vs.toArray t)) w') (j : Nat) (v : Value) (hv : vs[j]? = some v) : w'.cell? ⟨w.heap.size, j, none⟩ = some v := by
 rw [hb.cell (p := ⟨w.heap.size, j, none⟩) (by simp), World.cell?_alloc_new, List.getElem?_toArray, hv]
theorem box_below {w w' : World} (o : Obj) (hb : Below (w.alloc o).heap.size (w.alloc o) w') : Below w.heap.size w w' :=
 ((Below.refl _ _).alloc (Nat.le_refl _) _).trans (hb.mono (by simp))
def formed (h : Hd) (kl : Nat) : Bool :=
 if h.k = 1 then only h kl 0
 else if h.k = 2 then only h kl 1 && (h.n == 0 || h.n == 1)
 else if h.k = 3 then only h kl 1
 else if h.k = 4 then only h kl 3 && decide (1 <= h.s) && decide (h.s <= 18) && (h.n.tmod 10 != 0)
 else if h.k = 5 then only h kl 1 && decide (0 <= h.n) && decide (h.n <= 9007199254740992)
 else if h.k = 6 then only h kl 4
 else if h.k = 7 then only h kl 4
 else if h.k = 8 then only h kl 16
 else if h.k = 9 then only h kl 24
 else false
theorem formed_any (h : Hd) (na : Option Addr) (nc : Nat) (ka : Option Addr) (kl kc : Nat) (w : World) :
 Calls Tryz.prog 79 #[.agg #[.int .i64 h.k, .int .i64 h.n, .int .i64 h.s, .string h.t, .slice na h.ns.length nc, .slice ka kl kc]] w fun e w' => e = .returned (.bool (formed h kl)) /\ Below w.heap.size w w' := by
 go_enter Tryz.func79, Tryz.ntmps79
 go_wp2_with (go_at_call 123; go_must (refine (only_any h na nc ka kl kc _ (by simp) _).mono ?_; rintro e w' ⟨rfl, hb⟩; have c1 := box_get (six h na nc ka kl kc) 38 hb 1 _ rfl; have c2 := box_get (six h na nc ka kl kc) 38 hb 2 _ rfl; have HB : Hid (Below w.heap.size w w') := box_below _ hb; clear hb))
 all_goals
  go_ret
  refine ⟨?_, by first | exact HB.out | exact (Below.refl _ _).alloc (Nat.le_refl _) _⟩
  simp_all [formed] <;> (intros; omega)
def rises : ByteArray -> List ByteArray -> Bool
 | _, [] => true
 | l, x :: r => !(Op.bytesLess x.toList l.toList || x.toList == l.toList) && !(decide (40 < x.size)) && rises x r
def named (ns : List ByteArray) (kl : Nat) : Bool := decide (ns.length = kl) && rises ⟨#[]⟩ ns
theorem named_any (h : Hd) (na : Option Addr) (nc : Nat) (ka : Option Addr) (kl kc : Nat) (w : World) (hn : Nms w na h.ns) (hl : h.ns.length <= 140737488355328) (he : ∀ x ∈ h.ns, x.size <= 140737488355328) :
 Calls Tryz.prog 80 #[.agg #[.int .i64 h.k, .int .i64 h.n, .int .i64 h.s, .string h.t, .slice na h.ns.length nc, .slice ka kl kc]] w fun e w' => e = .returned (.bool (named h.ns kl)) /\ Below w.heap.size w w' := by
 have HN : Hid (Nms w na h.ns) := hn
 clear hn
 go_enter Tryz.func80, Tryz.ntmps80
 by_cases hE : h.ns.length = kl
 case neg =>
  have hd : ((h.ns.length : Int) != (kl : Int)) = true := by simp; omega
  go_wp2
  go_ret
  exact ⟨by simp [named, hE], (Below.refl _ _).alloc (Nat.le_refl _) _⟩
 subst hE
 go_wp2
 have HN1 : Hid (Nms (w.alloc (.cells #[.int .i64 h.k, .int .i64 h.n, .int .i64 h.s, .string h.t, .slice na h.ns.length nc, .slice ka h.ns.length kc] 38)) na h.ns) := HN.out.below ((Below.refl _ _).alloc (Nat.le_refl _) _)
 have HB : Hid (Below w.heap.size w (w.alloc (.cells #[.int .i64 h.k, .int .i64 h.n, .int .i64 h.s, .string h.t, .slice na h.ns.length nc, .slice ka h.ns.length kc] 38))) := (Below.refl _ _).alloc (Nat.le_refl _) _
 generalize w.alloc (.cells #[.int .i64 h.k, .int .i64 h.n, .int .i64 h.s, .string h.t, .slice na h.ns.length nc, .slice ka h.ns.length kc] 38) = w1 at *
 go_loopw [3, 5, 16] (fun l x i wr => ∃ k : Nat, k <= h.ns.length /\ i = .int .i64 (k : Int) /\ ∃ last, l = .string last /\ wr = w1 /\ Hid (named h.ns h.ns.length = rises last (h.ns.drop k))) (fun _ _ i _ => h.ns.length - (intOf i).toNat)
 case atStart => exact ⟨0, by omega, rfl, _, rfl, rfl, by show _ = _; simp [named]⟩
 case round =>
  obtain ⟨k, hk, rfl, last, rfl, rfl, HR⟩ := hrel
  by_cases hlt : k < h.ns.length
  case neg =>
   go_wp2
   go_ret
   exact ⟨by rw [HR.out, List.drop_of_length_le (by omega)]; rfl, HB.out⟩
  obtain ⟨x, hx⟩ : ∃ x, h.ns[k]? = some x := ⟨_, List.getElem?_eq_getElem hlt⟩
  have hxs : x.size <= 140737488355328 := he x (List.mem_of_getElem? hx)
  have HD : Hid (h.ns.drop k = x :: h.ns.drop (k + 1)) := by
   have := List.drop_eq_getElem_cons hlt
   rw [List.getElem?_eq_getElem hlt] at hx
   show _ = _
   rw [this, Option.some.inj hx]
  rcases HN1.out with e | ⟨b, o, rfl, hc⟩
  . simp [e] at hlt
  have c := hc k x hx
  clear hc hx
  cases hA : Op.bytesLess x.toList last.toList <;> cases hB : (x.toList == last.toList) <;> by_cases hC : 40 < x.size
  rotate_left
  . go_wp2
    go_roundw
    case rel =>
     refine ⟨k + 1, by omega, by go_num, x, rfl, trivial, ?_⟩
     show _ = _
     rw [HR.out, HD.out]
     simp [rises, hA, hB, hC]
    case measure => simp [intOf]; omega
  all_goals
   go_wp2
   go_ret
   exact ⟨by rw [HR.out, HD.out]; simp [rises, hA, hB, hC], HB.out⟩
def own (h : Hd) (kl : Nat) : Int := if formed h kl = true then (if 16384 < h.t.size ∨ 200 < kl then 5 else if h.k = 9 /\ named h.ns kl = false then 3 else 0) else 3
def chk : Fo -> Int -> Int
 | .nil, _ => 0
 | .cons h k r, d => if (if 16 < d then 9 else if own h k.list.length ≠ 0 then own h k.list.length else chk k (d + 1)) ≠ 0 then (if 16 < d then 9 else if own h k.list.length ≠ 0 then own h k.list.length else chk k (d + 1)) else chk r d
def chkV (p : Vt) (d : Int) : Int := if 16 < d then 9 else if own p.1 p.2.list.length ≠ 0 then own p.1 p.2.list.length else chk p.2 (d + 1)
theorem chk_cons (p : Vt) (r : Fo) (d : Int) : chk (.cons p.1 p.2 r) d = if chkV p d ≠ 0 then chkV p d else chk r d := rfl
def Fo.drop : Nat -> Fo -> Fo
 | 0, f => f
 | _ + 1, .nil => .nil
 | n + 1, .cons _ _ r => Fo.drop n r
theorem Fo.drop_at : ∀ (f : Fo) (i : Nat) (p : Vt), f.list[i]? = some p -> f.drop i = .cons p.1 p.2 (f.drop (i + 1))
 | .nil, i, p, h => by simp [Fo.list] at h
 | .cons hd k r, 0, p, h => by
   simp only [Fo.list, List.getElem?_cons_zero, Option.some.injEq] at h
   subst h
   cases r <;> rfl
 | .cons hd k r, i + 1, p, h => by
   simp only [Fo.list, List.getElem?_cons_succ] at h
   have := Fo.drop_at r i p h
   simp only [Fo.drop]
   exact this
theorem Fo.drop_end : ∀ (f : Fo) (i : Nat), f.list.length <= i -> f.drop i = .nil
 | .nil, 0, _ => rfl
 | .nil, i + 1, _ => rfl
 | .cons hd k r, 0, h => by simp [Fo.list] at h
 | .cons hd k r, i + 1, h => Fo.drop_end r i (by simpa [Fo.list] using h)
end Go.Proofs.YtobfdcdobhhagaaGreatDoor
namespace Go.Proofs.YtobfdcdobhhagaaGreatDoor.Math
def zigS (v : Int) : Int := if 0 <= v then 2 * v else 2 * -(v + 1) + 1
def zagS (u : Int) : Int := if u % 2 = 0 then u / 2 else -(u / 2) - 1
theorem zag_zig (v : Int) : zagS (zigS v) = v := by
 unfold zagS zigS; split <;> split <;> omega
theorem zig_bd (v : Int) (h1 : -9223372036854775808 <= v) (h2 : v <= 9223372036854775807) : 0 <= zigS v /\ zigS v <= 18446744073709551615 := by
 unfold zigS; split <;> omega
theorem xor_ones (a : Nat) (ha : a < 18446744073709551616) : a ^^^ 18446744073709551615 = 18446744073709551615 - a := by
 have h : (BitVec.ofNat 64 a ^^^ BitVec.allOnes 64).toNat = (~~~ (BitVec.ofNat 64 a)).toNat := by rw [BitVec.xor_allOnes]
 rw [BitVec.toNat_xor, BitVec.toNat_not, BitVec.toNat_ofNat, BitVec.toNat_allOnes, Nat.mod_eq_of_lt (by omega)] at h
 simpa using h
theorem zig_bits (v : Int) (h1 : -9223372036854775808 <= v) (h2 : v <= 9223372036854775807) :
 bits .xor .u64 (IntKind.u64.wrap (IntKind.u64.wrap v * 2)) (IntKind.u64.wrap (v / 9223372036854775808)) = zigS v := by
 simp only [IntKind.wrap_u64]
 unfold zigS
 by_cases h : 0 <= v
 . rw [if_pos h, show v / 9223372036854775808 = 0 by omega]
   rw [u64_xor _ _ (by omega) (by omega) (by omega) (by omega)]
   simp
   omega
 . rw [if_neg h, show v / 9223372036854775808 = -1 by omega]
   rw [u64_xor _ _ (by omega) (by omega) (by omega) (by omega)]
   rw [show ((-1 : Int) % 18446744073709551616).toNat = 18446744073709551615 by decide, xor_ones _ (by omega)]
   omega
def acc (v x k : Nat) : Nat := v ||| (x % 128 * 2 ^ (7 * k) % 18446744073709551616)
def uvF : Nat -> Nat -> List Nat
 | 0, v => [v]
 | f + 1, v => if v < 128 then [v] else (v % 128 + 128) :: uvF f (v / 128)
theorem uvF_eq : ∀ (f g v : Nat), v <= f -> v <= g -> uvF f v = uvF g v
 | 0, 0, _, _, _ => rfl
 | 0, g + 1, v, h, _ => by
   obtain rfl : v = 0 := by omega
   rfl
 | f + 1, 0, v, _, h => by
   obtain rfl : v = 0 := by omega
   rfl
 | f + 1, g + 1, v, h, h' => by
   simp only [uvF]
   by_cases hv : v < 128
   . rw [if_pos hv, if_pos hv]
   . rw [if_neg hv, if_neg hv, uvF_eq f g (v / 128) (by omega) (by omega)]
def uv (v : Nat) : List Nat := uvF v v
theorem uv_lo (v : Nat) (h : v < 128) : uv v = [v] := by
 unfold uv
 cases v with
 | zero => rfl
 | succ v => simp only [uvF]; rw [if_pos h]
theorem uv_hi (v : Nat) (h : ¬ v < 128) : uv v = (v % 128 + 128) :: uv (v / 128) := by
 unfold uv
 cases v with
 | zero => omega
 | succ v => simp only [uvF]; rw [if_neg h, uvF_eq v ((v + 1) / 128) ((v + 1) / 128) (by omega) (by omega)]
theorem uv_len (n v : Nat) (h : v < 128 ^ (n + 1)) : (uv v).length <= n + 1 := by
 induction n generalizing v with
 | zero => rw [uv_lo v (by simpa using h)]; simp
 | succ n ih =>
   by_cases hv : v < 128
   . rw [uv_lo v hv]; simp
   . rw [uv_hi v hv]
     have := ih (v / 128) (by rw [Nat.div_lt_iff_lt_mul (by decide)]; rw [Nat.pow_succ] at h; exact h)
     simpa using this
theorem uv_pos (v : Nat) : 0 < (uv v).length := by
 by_cases hv : v < 128
 . rw [uv_lo v hv]; simp
 . rw [uv_hi v hv]; simp
theorem uv_ten (v : Nat) (h : v < 18446744073709551616) : (uv v).length <= 10 := uv_len 9 v (Nat.lt_of_lt_of_le h (by decide))
theorem or_128 : ∀ y, y < 256 -> y ||| 128 = y % 128 + 128 := by decide +kernel
theorem or_u8 (u : Nat) : bits .or .u8 ((u : Int) % 256) 128 = ((u % 128 + 128 : Nat) : Int) := by
 have h := u8_or_nat (u % 256) 128 (by omega) (by omega)
 rw [or_128 _ (by omega)] at h
 rw [show ((u : Int) % 256) = ((u % 256 : Nat) : Int) by omega]
 refine Eq.trans h ?_
 congr 1; omega
theorem or_t (t : Nat) (ht : t < 128) : bits .or .u8 (t : Int) 128 = ((t + 128 : Nat) : Int) := by
 have h := u8_or_nat t 128 (by omega) (by omega)
 rw [or_128 _ (by omega), Nat.mod_eq_of_lt ht] at h
 exact h
theorem and_127 (u : Nat) (hu : u < 18446744073709551616) : bits .and .u64 (u : Int) 127 = ((u % 128 : Nat) : Int) := by
 have h := u64_and_nat u 127 hu (by omega)
 rw [nat_mask7] at h
 exact h
end Go.Proofs.YtobfdcdobhhagaaGreatDoor.Math
namespace Go.Proofs.YtobfdcdobhhagaaGreatDoor
open Go.RowKit Math
set_option linter.unusedVariables false
def Oct (l : List Nat) : Prop := ∀ x ∈ l, x < 256
theorem Oct.app {l m : List Nat} (h : Oct l) (g : Oct m) : Oct (l ++ m) := fun x hx => by
 rcases List.mem_append.1 hx with hx | hx
 . exact h x hx
 . exact g x hx
def bts (s : ByteArray) : List Nat := s.data.toList.map UInt8.toNat
def ofB (l : List Nat) : ByteArray := ⟨(l.map UInt8.ofNat).toArray⟩
theorem bts_len (s : ByteArray) : (bts s).length = s.size := by simp [bts]
theorem bts_oct (s : ByteArray) : ∀ x ∈ bts s, x < 256 := fun x hx => by
 obtain ⟨y, _, rfl⟩ := List.mem_map.1 hx
 exact y.toNat_lt
theorem ofB_bts (s : ByteArray) : ofB (bts s) = s := by
 unfold ofB bts
 rw [List.map_map]
 have : (UInt8.ofNat ∘ UInt8.toNat) = id := by funext x; simp
 rw [this]
 simp
theorem bts_ofB (l : List Nat) (h : ∀ x ∈ l, x < 256) : bts (ofB l) = l := by
 unfold ofB bts
 simp only [List.map_map]
 conv => rhs; rw [<- List.map_id l]
 apply List.map_congr_left
 intro x hx
 have := h x hx
 simp
 omega
theorem ofB_size (l : List Nat) : (ofB l).size = l.length := by
 have : (ofB l).size = (ofB l).data.toList.length := by simp
 rw [this]
 simp [ofB]
end Go.Proofs.YtobfdcdobhhagaaGreatDoor
namespace Go.Proofs.YtobfdcdobhhagaaGreatDoor
open Go.RowKit Math
set_option linter.unusedVariables false
def Fo.snoc : Fo -> Vt -> Fo
 | .nil, p => .cons p.1 p.2 .nil
 | .cons h k r, p => .cons h k (r.snoc p)
theorem snoc_list (p : Vt) : ∀ f : Fo, (f.snoc p).list = f.list ++ [p]
 | .nil => rfl
 | .cons h k r => by simp [Fo.snoc, Fo.list, snoc_list p r]
def dpF : Fo -> Nat
 | .nil => 0
 | .cons _ k r => max (1 + dpF k) (dpF r)
def dpV (p : Vt) : Nat := 1 + dpF p.2
def chk0 : Fo -> Int
 | .nil => 0
 | .cons h k r => if (if own h k.list.length ≠ 0 then own h k.list.length else chk0 k) ≠ 0 then (if own h k.list.length ≠ 0 then own h k.list.length else chk0 k) else chk0 r
def chk0V (p : Vt) : Int := if own p.1 p.2.list.length ≠ 0 then own p.1 p.2.list.length else chk0 p.2
theorem chk_flat : ∀ (f : Fo) (d : Int), d + (dpF f : Int) <= 17 -> chk f d = chk0 f
 | .nil, d, _ => rfl
 | .cons h k r, d, hd => by
   simp only [dpF] at hd
   have e1 := chk_flat k (d + 1) (by omega)
   have e2 := chk_flat r d (by omega)
   simp only [chk, chk0]
   rw [if_neg (show ¬ 16 < d by omega), e1, e2]
theorem chkV_flat (p : Vt) (d : Int) (hd : d + (dpV p : Int) <= 17) : chkV p d = chk0V p := by
 unfold dpV at hd
 unfold chkV chk0V
 rw [if_neg (by omega), chk_flat p.2 (d + 1) (by omega)]
theorem chk0_cons (p : Vt) (r : Fo) : chk0 (.cons p.1 p.2 r) = if chk0V p ≠ 0 then chk0V p else chk0 r := rfl
theorem deep_of : ∀ (f : Fo) (d : Int), d <= 17 -> chk f d = 0 -> d + (dpF f : Int) <= 17
 | .nil, d, hd, _ => by simp [dpF]; exact hd
 | .cons h k r, d, hd, hc => by
   simp only [chk] at hc
   by_cases h16 : 16 < d
   . rw [if_pos h16] at hc
     simp at hc
   rw [if_neg h16] at hc
   by_cases h1 : own h k.list.length = 0
   . simp only [h1, ne_eq, not_true_eq_false, if_false] at hc
     by_cases h2 : chk k (d + 1) = 0
     . simp only [h2, not_true_eq_false, if_false] at hc
       have a := deep_of k (d + 1) (by omega) h2
       have b := deep_of r d hd hc
       simp only [dpF]
       omega
     . simp [h2] at hc
   . simp [h1] at hc
theorem deepV_of (p : Vt) (d : Int) (hc : chkV p d = 0) : d + (dpV p : Int) <= 17 := by
 unfold chkV at hc
 by_cases h16 : 16 < d
 . rw [if_pos h16] at hc; cases hc
 rw [if_neg h16] at hc
 by_cases h1 : own p.1 p.2.list.length = 0
 . simp only [h1, ne_eq, not_true_eq_false, if_false] at hc
   have := deep_of p.2 (d + 1) (by omega) hc
   unfold dpV
   omega
 . simp [h1] at hc
def txB (s : ByteArray) : List Nat := uv s.size ++ bts s
def bodyB (h : Hd) (kl : Nat) : List Nat :=
 if h.k = 2 then [h.n.toNat] else if h.k = 3 then uv (zigS h.n).toNat else if h.k = 4 then uv (zigS h.n).toNat ++ [h.s.toNat] else if h.k = 5 then uv h.n.toNat
 else if h.k = 6 then txB h.t else if h.k = 7 then txB h.t else if h.k = 8 then uv kl else if h.k = 9 then uv kl else []
def headB (h : Hd) (kl : Nat) : List Nat := h.k.toNat :: bodyB h kl
def enc : Fo -> Bool -> List ByteArray -> List Nat
 | .nil, _, _ => []
 | .cons h k r, b, ns => ((if b then txB (ns.headD ⟨#[]⟩) else []) ++ (headB h k.list.length ++ enc k (decide (h.k = 9)) h.ns)) ++ enc r b ns.tail
def encV (p : Vt) : List Nat := headB p.1 p.2.list.length ++ enc p.2 (decide (p.1.k = 9)) p.1.ns
theorem enc_cons (p : Vt) (r : Fo) (b : Bool) (ns : List ByteArray) : enc (.cons p.1 p.2 r) b ns = ((if b then txB (ns.headD ⟨#[]⟩) else []) ++ encV p) ++ enc r b ns.tail := rfl
abbrev em : ByteArray := ⟨#[]⟩
def lf (k n s : Int) (t : ByteArray) : Vt := (⟨k, n, s, t, []⟩, .nil)
def nst (k : Int) (q : Fo × List ByteArray) : Vt := (⟨k, 0, 0, em, q.2⟩, q.1)
structure Fine (h : Hd) (kl : Nat) : Prop where
 form : formed h kl = true
 t : h.t.size <= 16384
 c : kl <= 200
 nm : h.k = 9 -> named h.ns kl = true
theorem own_fine {h : Hd} {kl : Nat} (e : own h kl = 0) : Fine h kl := by
 unfold own at e
 split at e
 . next hf =>
   split at e
   . cases e
   . next h2 =>
     split at e
     . cases e
     . next h3 =>
       refine ⟨hf, by omega, by omega, fun h9 => ?_⟩
       cases hn : named h.ns kl with
       | true => rfl
       | false => exact absurd ⟨h9, hn⟩ h3
 . cases e
theorem em_of {t : ByteArray} (h : t.toList.isEmpty = true) : t = em := by
 rw [ByteArray.toList_eq] at h
 cases t with
 | mk d =>
   cases d with
   | mk l =>
     cases l with
     | nil => rfl
     | cons a l => simp at h
theorem fo_nil {f : Fo} (h : f.list.length = 0) : f = .nil := by
 cases f with
 | nil => rfl
 | cons h k r => simp [Fo.list] at h
theorem leaf_of {p : Vt} {F : Int} (h : only p.1 p.2.list.length F = true) (hF : F ≠ 16) (hF2 : F ≠ 24) : p.1.ns = [] /\ p.2 = .nil /\ (F ≠ 4 -> p.1.t = em) /\ (F ≠ 3 -> p.1.s = 0) /\ (F ≠ 1 -> F ≠ 3 -> p.1.n = 0) := by
 simp only [only, Bool.and_eq_true, Bool.or_eq_true, decide_eq_true_eq] at h
 obtain ⟨⟨⟨⟨h1, h2⟩, h3⟩, h4⟩, h5⟩ := h
 refine ⟨?_, ?_, fun hf => ?_, fun hf => ?_, fun ha hb => ?_⟩
 . rcases h4 with h4 | h4
   . exact absurd h4 hF2
   . exact List.eq_nil_of_length_eq_zero h4
 . rcases h5 with (h5 | h5) | h5
   . exact absurd h5 hF
   . exact absurd h5 hF2
   . exact fo_nil h5
 . rcases h3 with h3 | h3
   . exact absurd h3 hf
   . exact em_of h3
 . rcases h2 with h2 | h2
   . exact absurd h2 hf
   . exact h2
 . rcases h1 with (h1 | h1) | h1
   . exact absurd h1 ha
   . exact absurd h1 hb
   . exact h1
end Go.Proofs.YtobfdcdobhhagaaGreatDoor
namespace Go.Proofs.YtobfdcdobhhagaaGreatDoor
open Go.RowKit Math
set_option linter.unusedVariables false
theorem names_len {ns : List ByteArray} {kl : Nat} (h : named ns kl = true) : ns.length = kl /\ ∀ x ∈ ns, x.size <= 40 := by
 simp only [named, Bool.and_eq_true, decide_eq_true_eq] at h
 refine ⟨h.1, ?_⟩
 have : ∀ (l : List ByteArray) (a : ByteArray), rises a l = true -> ∀ x ∈ l, x.size <= 40 := by
  intro l
  induction l with
  | nil => intro a _ x hx; cases hx
  | cons y l ih =>
    intro a h x hx
    simp only [rises, Bool.and_eq_true, Bool.not_eq_true', decide_eq_false_iff_not] at h
    rcases List.mem_cons.1 hx with rfl | hx
    . omega
    . exact ih y h.2 x hx
 exact this ns _ h.2
theorem chk0_mem : ∀ {f : Fo} {p : Vt}, chk0 f = 0 -> p ∈ f.list -> chk0V p = 0
 | .cons h k r, p, hc, hp => by
   have e : chk0 (.cons h k r) = if chk0V (h, k) ≠ 0 then chk0V (h, k) else chk0 r := rfl
   rw [e] at hc
   by_cases h0 : chk0V (h, k) = 0
   . rw [if_neg (by simpa using h0)] at hc
     rcases List.mem_cons.1 hp with rfl | hp
     . exact h0
     . exact chk0_mem hc hp
   . rw [if_pos h0] at hc
     exact absurd hc h0
theorem zig_nat (n : Int) (h1 : -9223372036854775808 <= n) (h2 : n < 9223372036854775808) : (zigS n).toNat < 18446744073709551616 /\ zagS ((zigS n).toNat : Int) = n := by
 have := zig_bd n h1 (by omega)
 refine ⟨by omega, ?_⟩
 rw [Int.toNat_of_nonneg this.1, zag_zig]
end Go.Proofs.YtobfdcdobhhagaaGreatDoor
namespace Go.Proofs.YtobfdcdobhhagaaGreatDoor
open Go.RowKit Math
set_option linter.unusedVariables false
theorem wf_snoc {p : Vt} (hp : WfV p) : ∀ {f : Fo}, Wf f -> Wf (f.snoc p)
 | .nil, _ => ⟨hp, trivial⟩
 | .cons h k r, hf => ⟨hf.1, wf_snoc hp hf.2⟩
theorem own_of0 {p : Vt} (h : chk0V p = 0) : own p.1 p.2.list.length = 0 /\ chk0 p.2 = 0 := by
 by_cases ho : own p.1 p.2.list.length = 0
 . rw [chk0V, if_neg (by simpa using ho)] at h
   exact ⟨ho, h⟩
 . rw [chk0V, if_pos ho] at h
   exact absurd h ho
end Go.Proofs.YtobfdcdobhhagaaGreatDoor
