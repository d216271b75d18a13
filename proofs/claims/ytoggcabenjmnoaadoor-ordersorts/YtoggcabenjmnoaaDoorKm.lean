/-
  The law package's known; OrderAbove.
-/
import Derived.Test.YtoggcabenjmnoaaDoorKl
namespace Go.Proofs.YtoggcabenjmnoaaDoor
open Go.RowKit Math
set_option linter.unusedVariables false
set_option linter.unusedSimpArgs false
def knF : Fo := .cons ⟨3, -25, 0, em, []⟩ .nil .nil
theorem knL : chkL knF = 0 := by decide +kernel
theorem knB : keyF knF false [] = [48, 61, 252, 249, 255] := by decide +kernel
theorem knT : keyT knF = ⟨#[48, 61, 252, 249, 255]⟩ := by
  rw [keyT_yes knL, knB]
  rfl
theorem lv_kn (W : World) : Lv (W.alloc (.cells #[.int .i64 3, .int .i64 (-25), .int .i64 0, .string ⟨#[]⟩, .slice none 0 0, .slice none 0 0] 34)) (some ⟨W.heap.size, 0, none⟩) 1 knF := by
  have hb := blk_new W 34 [.int .i64 3, .int .i64 (-25), .int .i64 0, .string ⟨#[]⟩, .slice none 0 0, .slice none 0 0]
  have c00 : Cap none 0 0 := ⟨Nat.le_refl _, fun _ => rfl, by omega⟩
  refine ⟨.inl rfl, c00, .inr ⟨W.heap.size, 0, rfl, ⟨none, 0, none, 0, ?_, .inl rfl, c00, .inl rfl, c00⟩, trivial⟩, ⟨Nat.le_refl _, (fun e => by cases e), by omega⟩⟩
  exact ⟨hb.cell 0, hb.cell 1, hb.cell 2, hb.cell 3, hb.cell 4, hb.cell 5⟩
theorem wf_kn : Wf knF := ⟨⟨⟨by decide, by decide, by decide, by decide, by decide, by decide, by decide, by decide, fun x hx => by cases hx⟩, by decide, trivial⟩, trivial⟩
theorem abv_kn {n : Nat} (h : Abv (bts ⟨#[97, 255]⟩) n) : n = 1 := by
  have e : bts ⟨#[97, 255]⟩ = [97, 255] := by decide
  rw [e] at h
  have h1 := h.le
  have h2 := h.ff
  have h3 := h.nf
  simp at h1
  rcases Nat.eq_zero_or_pos n with rfl | hp
  · have := h2 0 (by omega) (by decide)
    simp at this
  · rcases Nat.lt_or_ge n 2 with h | h
    · omega
    · have : n = 2 := by omega
      subst this
      exact absurd rfl (h3 (by omega))
set_option maxRecDepth 8000 in
set_option maxHeartbeats 1000000 in
theorem known_any (W : World) (hm : Mx W) : Calls Tryd.prog 9 #[] W fun e w' => e = .returned (.bool true) ∧ Below W.heap.size W w' := by
  obtain ⟨W1, HW1⟩ : ∃ W1, Hid (W.alloc (.cells #[.int .i64 3, .int .i64 (-25), .int .i64 0, .string ⟨#[]⟩, .slice none 0 0, .slice none 0 0] 34) = W1) := ⟨_, rfl⟩
  have HB1 : Hid (Below W.heap.size W W1) := by rw [← HW1.out]; exact (Below.refl _ _).alloc (Nat.le_refl _) _
  have K := key_any knF wf_kn (by decide) (some ⟨W.heap.size, 0, none⟩) 1 W1 (by rw [← HW1.out]; exact lv_kn W) (hm.below HB1.out hm.pos) (fun _ => by rw [knB]; decide)
  rw [knT, knL] at K
  replace K : Calls Tryd.prog 7 #[.slice (some ⟨W.heap.size, 0, none⟩) 1 1] W1 fun e w' => e = .returned (.tuple #[.string ⟨#[48, 61, 252, 249, 255]⟩, .int .i64 0]) ∧ Below W1.heap.size W1 w' := K
  go_enter Tryd.func9, Tryd.ntmps9
  go_wp2_with fail
  generalize hWW : World.alloc W _ = W9
  obtain rfl : W1 = W9 := by rw [← hWW, ← HW1.out]
  clear hWW HW1
  refine K.mono ?_
  rintro e w2 ⟨rfl, b2⟩
  have HB2 : Hid (Below W.heap.size W w2) := HB1.out.trans (b2.mono HB1.out.size)
  clear K b2 HB1
  have K2 := above_any ⟨#[97, 255]⟩ (by decide) w2
  go_wp2_with fail
  refine K2.mono ?_
  rintro e w3 ⟨n, hA, hr, b3⟩
  obtain rfl := abv_kn hA.out
  have HB3 : Hid (Below W.heap.size W w3) := HB2.out.trans (b3.mono HB2.out.size)
  rcases hr with ⟨h, _⟩ | ⟨_, rfl⟩
  · cases h
  have e1 : ofB (abvL (bts ⟨#[97, 255]⟩) 1) = ⟨#[98]⟩ := by decide +kernel
  rw [e1]
  clear K2 hA b3 HB2 e1
  go_wp2
  go_ret
  exact ⟨rfl, HB3.out⟩
end Go.Proofs.YtoggcabenjmnoaaDoor
