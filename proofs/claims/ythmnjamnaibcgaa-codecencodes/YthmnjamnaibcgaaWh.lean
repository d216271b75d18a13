/-
  codec.Encode.
-/
import Derived.Test.YthmnjamnaibcgaaWg
namespace Go.Proofs.Ythmnjamnaibcgaa
open Go.RowKit Math
set_option linter.unusedVariables false
/-- What Encode answers. -/
def encE (p : Vt) : Int := if chkV p 1 ≠ 0 then chkV p 1 else if 65536 < (encV p).length then 5 else 0
def encB (p : Vt) : List Nat := if encE p = 0 then encV p else []
theorem encE_no {p : Vt} (h : chkV p 1 ≠ 0) : encE p = chkV p 1 ∧ encB p = [] := by
  have e : encE p = chkV p 1 := by unfold encE; rw [if_pos h]
  exact ⟨e, by unfold encB; rw [e, if_neg h]⟩
theorem encE_long {p : Vt} (h : chkV p 1 = 0) (hl : 65536 < (encV p).length) : encE p = 5 ∧ encB p = [] := by
  have e : encE p = 5 := by unfold encE; rw [if_neg (by simpa using h), if_pos hl]
  exact ⟨e, by unfold encB; rw [e]; rfl⟩
theorem encE_yes {p : Vt} (h : chkV p 1 = 0) (hl : ¬ 65536 < (encV p).length) : encE p = 0 ∧ encB p = encV p := by
  have e : encE p = 0 := by unfold encE; rw [if_neg (by simpa using h), if_neg hl]
  exact ⟨e, by unfold encB; rw [e]; rfl⟩
theorem chk1 {p : Vt} (h : chkV p 1 = 0) : chk0V p = 0 := by rw [← chkV_flat p 1 (deepV_of p 1 h)]; exact h
set_option maxRecDepth 8000 in
theorem encode_all (p : Vt) (hw : WfV p) (hl : chkV p 1 = 0 → (encV p).length ≤ 12000000) (na : Option Addr) (nc : Nat) (ka : Option Addr) (kc : Nat) (W : World) (hv : Vl W p na nc ka kc) :
    Calls Try.prog 6 #[.agg #[.int .i64 p.1.k, .int .i64 p.1.n, .int .i64 p.1.s, .string p.1.t, .slice na p.1.ns.length nc, .slice ka p.2.list.length kc]] W fun e w' => ∃ v', e = .returned (.tuple #[v', .int .i64 (encE p)]) ∧ Hid (Own w' W.heap.size v' (encB p) ∧ Below W.heap.size W w') := by
  obtain ⟨W1, HW1⟩ : ∃ W1, Hid (W.alloc (.cells #[.int .i64 p.1.k, .int .i64 p.1.n, .int .i64 p.1.s, .string p.1.t, .slice na p.1.ns.length nc, .slice ka p.2.list.length kc] 25) = W1) := ⟨_, rfl⟩
  have HX : Hid (Blk W1 W.heap.size 25 (six p.1 na nc ka p.2.list.length kc)) := by rw [← HW1.out]; exact blk_new W 25 (six p.1 na nc ka p.2.list.length kc)
  have HB1 : Hid (Below W.heap.size W W1) := by rw [← HW1.out]; exact (Below.refl _ _).alloc (Nat.le_refl _) _
  have hz1 : W1.heap.size = W.heap.size + 1 := by have := HW1.out; subst this; simp
  have HV : Hid (Vl W p na nc ka kc) := hv
  have KC := vCheck_any p hw na nc ka kc W1 (hv.below HB1.out)
  have KA : Hid (chkV p 1 = 0 → AvC p ∧ (encV p).length ≤ 12000000) := fun h => ⟨av_any _ p (Nat.le_refl _) hw (chk1 h), hl h⟩
  have HN : Hid (chkV p 1 ≠ 0 → encE p = chkV p 1 ∧ encB p = []) := encE_no
  have HL : Hid (chkV p 1 = 0 → 65536 < (encV p).length → encE p = 5 ∧ encB p = []) := encE_long
  have HY : Hid (chkV p 1 = 0 → ¬ 65536 < (encV p).length → encE p = 0 ∧ encB p = encV p) := encE_yes
  generalize encE p = EE at *
  generalize encB p = BB at *
  generalize chkV p 1 = E at *
  clear hv
  go_enter Try.func6, Try.ntmps6
  go_wp2_with fail
  generalize hWW : World.alloc W _ = W9
  obtain rfl : W1 = W9 := by rw [← hWW, ← HW1.out]
  clear hWW HW1
  refine KC.mono ?_
  clear KC
  rintro e w1 ⟨rfl, b1⟩
  have HB2 : Hid (Below W.heap.size W w1) := HB1.out.trans (b1.mono HB1.out.size)
  have HX2 : Hid (Blk w1 W.heap.size 25 (six p.1 na nc ka p.2.list.length kc)) := HX.out.below b1 HX.out.lt
  clear b1 HB1 HX
  by_cases hE : E = 0
  case neg =>
    obtain ⟨e1, e2⟩ := HN.out hE
    subst e1 e2
    have hEb : (EE != 0) = true := by simpa using hE
    go_wp2
    go_ret2
    exact ⟨_, rfl, World.ownsRow_nil _ _ _ _, HB2.out⟩
  subst hE
  obtain ⟨ka1, kl1⟩ := KA.out rfl
  have c0 : w1.cell? ⟨W.heap.size, 0, none⟩ = some (.int .i64 p.1.k) := HX2.out.cell 0
  have c1 : w1.cell? ⟨W.heap.size, 1, none⟩ = some (.int .i64 p.1.n) := HX2.out.cell 1
  have c2 : w1.cell? ⟨W.heap.size, 2, none⟩ = some (.int .i64 p.1.s) := HX2.out.cell 2
  have c3 : w1.cell? ⟨W.heap.size, 3, none⟩ = some (.string p.1.t) := HX2.out.cell 3
  have c4 : w1.cell? ⟨W.heap.size, 4, none⟩ = some (.slice na p.1.ns.length nc) := HX2.out.cell 4
  have c5 : w1.cell? ⟨W.heap.size, 5, none⟩ = some (.slice ka p.2.list.length kc) := HX2.out.cell 5
  have KV := ka1 na nc ka kc (.slice none 0 0) [] W.heap.size W w1 HV.out HB2.out (Nat.le_refl _) HB2.out.size (World.ownsRow_nil _ _ _ _) (by simp only [List.length_nil]; omega)
  clear KA HN ka1
  go_wp2_with fail
  refine KV.mono ?_
  clear KV c0 c1 c2 c3 c4 c5
  rintro e w2 ⟨v2, l2, rfl, H2⟩
  have HB3 : Hid (Below W.heap.size W w2) := H2.out.1.below (show Own w1 W.heap.size (.slice none 0 0) [] from World.ownsRow_nil _ _ _ _) HB2.out HB2.out.size (Nat.le_refl _)
  have HO2 : Hid (Own w2 W.heap.size v2 l2) := H2.out.1.own
  have HW2 : Hid (Wr [] (encV p) l2) := H2.out.2
  obtain ⟨ax, c, rfl, _, _, hlc, hcm⟩ := HO2.out.byt
  clear H2 HX2 HB2
  have hup : l2.length ≤ 12000000 := by have := HW2.out.up; simp only [List.length_nil] at this; omega
  by_cases hl : 65536 < l2.length
  · have hl2 : 65536 < (encV p).length := by have := HW2.out.up; simp only [List.length_nil] at this; omega
    obtain ⟨e1, e2⟩ := HL.out (by trivial) hl2
    subst e1 e2
    have hlb : decide ((65536 : Int) < (l2.length : Int)) = true := by simp; omega
    clear hl2
    go_wp2
    go_ret2
    exact ⟨_, rfl, World.ownsRow_nil _ _ _ _, HB3.out⟩
  · have e : l2 = encV p := by
      rcases HW2.out.out with h | h
      · simpa using h
      · exact absurd h hl
    obtain ⟨e1, e2⟩ := HY.out (by trivial) (by rw [← e]; exact hl)
    subst e1
    have HO3 : Hid (Own w2 W.heap.size (.slice ax l2.length c) BB) := by rw [e2, ← e]; exact HO2.out
    have hlb : decide ((65536 : Int) < (l2.length : Int)) = false := by simp; omega
    clear e e2 HL HY
    go_wp2
    go_ret2
    exact ⟨_, rfl, HO3.out, HB3.out⟩
theorem encode_any (p : Vt) (hw : WfV p) (hws : ws p ≤ 100000) (na : Option Addr) (nc : Nat) (ka : Option Addr) (kc : Nat) (W : World) (hv : Vl W p na nc ka kc) :
    Calls Try.prog 6 #[.agg #[.int .i64 p.1.k, .int .i64 p.1.n, .int .i64 p.1.s, .string p.1.t, .slice na p.1.ns.length nc, .slice ka p.2.list.length kc]] W fun e w' => ∃ v', e = .returned (.tuple #[v', .int .i64 (encE p)]) ∧ Hid (Own w' W.heap.size v' (encB p) ∧ Below W.heap.size W w') :=
  encode_all p hw (fun h => by have := bound_V p hw (chk1 h); omega) na nc ka kc W hv
end Go.Proofs.Ythmnjamnaibcgaa
