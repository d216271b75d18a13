/-
  The document's own writer of codec: text.
-/
import Derived.Test.YthmnjamnaibcgaaWa
import Derived.Test.YthmnjamnaibcgaaOuv
namespace Go.Proofs.Ythmnjamnaibcgaa
open Go.RowKit Go.ChangeShapes Go.WideShapes Math
set_option linter.unusedVariables false
set_option linter.unusedSimpArgs false
set_option maxRecDepth 8000 in
theorem rpTx (v : Value) (l : List Nat) (s : ByteArray) (B : Nat) (W : World) (ho : Own W B v l) (hB : B ≤ W.heap.size) (hl : l.length + s.size ≤ 800000000) :
    Calls Try.prog 29 #[v, .string s] W fun e w' => ∃ v', e = .returned v' ∧ Ap B W w' v v' (l ++ txB s) := by
  have K2 := uvr_any s.size (by omega) W
  have h10 := uv_ten s.size (by omega)
  have HO : Hid (Own W B v l) := ho
  clear ho
  go_enter Try.func29, Try.ntmps29
  go_wp2_with fail
  refine K2.mono ?_
  rintro e w1 ⟨r1, rfl, o1, b1⟩
  obtain ⟨a1, c1, rfl, hb1, hn1, _, _⟩ := o1.byt
  have HO1 : Hid (Own w1 B v l) := HO.out.below b1
  have HB1 : Hid (Byt w1 a1 (uv s.size)) := hb1
  have HG1 : Hid (Below W.heap.size W w1) := b1
  have hs := b1.size
  have HN1 : Hid (a1 = none → c1 = 0) := hn1
  clear o1 b1 hb1 K2 hn1
  go_wp2_with (at_builtin; go_must (refine ap_bytes rfl (.tmp 5) (.tmp 9) rfl B v l rfl HO1.out a1 (uv s.size).length c1 (uv s.size) rfl rfl HB1.out HN1.out (by omega) (by omega) ?_))
  intro v2 w2 A2
  have HA2 : Hid (Ap B W w2 v v2 (l ++ uv s.size)) := Ap.after HG1.out A2
  have hs2 := A2.gr.size
  clear A2
  go_wp2_with (at_builtin; go_must (refine ap_str rfl (.tmp 11) (.tmp 12) rfl B v2 (l ++ uv s.size) rfl HA2.out.own s rfl (by rw [List.length_append]; omega) (by omega) ?_))
  intro v3 w3 A3
  have HA3 : Hid (Ap B W w3 v v3 (l ++ txB s)) := HA2.out.trans A3
  clear A3 HA2
  go_wp2
  go_ret
  exact ⟨v3, rfl, HA3.out⟩
end Go.Proofs.Ythmnjamnaibcgaa
