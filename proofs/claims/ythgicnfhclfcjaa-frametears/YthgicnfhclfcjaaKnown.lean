/-
  The contract of the law package's known: it returns true, and changes nothing that was there.
-/
import Derived.Test.YthgicnfhclfcjaaDec
namespace Go.Proofs.Ythgicnfhclfcjaa
open Go.RowKit Math
set_option linter.unusedVariables false
theorem dec_v {v : Value} {W : World} {base : Nat} {l : List Nat} (h : Own W base v l) (hn : l.length ≤ 1000000) (hb : Oct l) : Calls Try.prog 15 #[v] W (DecA l W) := by
  obtain ⟨a, c, rfl, h1, h2, h3, h4, _⟩ := h.shape
  unfold maxLen at h2
  exact dec_any a c l hn h1 (by omega) W h4 hb
set_option maxHeartbeats 400000 in
theorem known_any (w : World) : Calls Try.prog 14 #[] w fun e w' => e = .returned (.bool true) ∧ Below w.heap.size w w' := by
  have HE : Hid (Calls Try.prog 10 #[.slice none 0 0] w fun e w' => ∃ g c, e = .returned (.tuple #[.slice (some ⟨g, 0, none⟩) 12 c, .int .i64 0]) ∧ Own w' w.heap.size (.slice (some ⟨g, 0, none⟩) 12 c) (rcd []) ∧ Below w.heap.size w w') :=
    enc_any none 0 [] (by decide) w (.inl rfl) (fun x hx => by cases hx) (fun _ => rfl)
  have HD : Hid (dec (rcd [] ++ [1]) = ([], 12, 0)) := dec_rcd [] [1] (by decide)
  have hl := rcd_length []
  have HO : Hid (Oct (rcd [] ++ [1])) := oct_app (rcd_oct (fun x hx => by cases hx)) (fun x hx => by simp at hx; omega)
  generalize rcd [] = R at *
  have hl : R.length = 12 := hl
  have HN : Hid ((R ++ [1]).length ≤ 1000000) := by show _ ≤ _; simp; omega
  go_enter Try.func14, Try.ntmps14
  go_wp2_with fail
  refine HE.out.mono ?_
  rintro e w1 ⟨g, c, rfl, o1, b1⟩
  clear HE
  have s1 := b1.size
  go_wp2_with (at_builtin; go_must (refine app_bytes rfl (.tmp 11) (.tmp 12) rfl w.heap.size _ R rfl (o1.alloc _) _ _ _ [1] rfl rfl (byt_lit w1 [1]) (by simp) (by simp; omega) (by simp; omega) ?_))
  intro v2 w2 o2 g2
  have b2 := below_app (b1.alloc s1 _) (by simp; omega) (o1.alloc _) g2
  clear g2 o1
  go_wp2_with fail
  refine (dec_v o2 HN.out HO.out).mono ?_
  rintro e w3 ⟨v3, rfl, o3, d3⟩
  have b3 := b2.trans (d3.mono b2.size)
  rw [HD.out] at o3 ⊢
  obtain ⟨a3, c3, rfl, _⟩ := o3.shape
  clear o3 d3 o2
  go_wp2
  go_ret
  exact ⟨rfl, b3⟩
#print axioms known_any
end Go.Proofs.Ythgicnfhclfcjaa
