/-
  Regions that draw: one of several operations comes up; a new variable in a region.
-/
import Derived.Test.YtiddlpjnfophhaaOrf
import Derived.Test.YtiddlpjnfophhaaClo
namespace Go.Proofs.Ytiddlpjnfophhaa
open Go Go.RowKit
section
variable {P : Program} {C : World → Prop} {z : Nat} {Q : Exit → Act → World → Prop}
theorem one_of {L : List Oper} {n : Nat} {listed : Array Bool} {a : Act} {w : World} (N : Nat) (hn : n = N + 1) (is : List Nat) (hr : Region.ready .any L.toArray listed = is) (hne : is ≠ [])
    (h : ∀ i ∈ is, ∃ o, nth L i = some o ∧ Region.wanted o (yielded L.toArray a.tmps) = true ∧ ∀ K : Act → World → Prop, (∀ a' w', (i = z ∨ C w') → anyC P L.toArray C z Q N (listed.setIfInBounds i true) a' w' → K a' w') → o.wp P a w K Q) : anyC P L.toArray C z Q n listed a w := by
  subst hn
  refine ⟨fun h0 => absurd (hr.symm.trans h0) hne, fun j hj => ?_⟩
  rw [hr] at hj
  obtain ⟨o, h1, h2, h3⟩ := h j hj
  unfold wpOp
  simp only [show L.toArray[j]? = some o by rw [List.getElem?_toArray, ← nth_eq, h1]]
  rw [if_pos h2]
  exact .inl (h3 _ fun a' w' hC h' => ⟨hC, h'⟩)
theorem two_do {L : List Oper} {i j : Nat} {oi oj : Oper} {n : Nat} {listed : Array Bool} {a : Act} {w : World} (N : Nat) (hn : n = N + 1) (hr : Region.ready .any L.toArray listed = [i, j]) (hi : nth L i = some oi) (hwi : Region.wanted oi (yielded L.toArray a.tmps) = true) (hj : nth L j = some oj) (hwj : Region.wanted oj (yielded L.toArray a.tmps) = true)
    (h1 : ∀ K : Act → World → Prop, (∀ a' w', C w' → anyC P L.toArray C z Q N (listed.setIfInBounds i true) a' w' → K a' w') → oi.wp P a w K Q) (h2 : ∀ K : Act → World → Prop, (∀ a' w', C w' → anyC P L.toArray C z Q N (listed.setIfInBounds j true) a' w' → K a' w') → oj.wp P a w K Q) : anyC P L.toArray C z Q n listed a w := by
  refine one_of N hn [i, j] hr (by simp) fun k hk => ?_
  by_cases e : k = i
  · subst e
    exact ⟨oi, hi, hwi, fun K hK => h1 K fun a' w' hC => hK a' w' (.inr hC)⟩
  · have : k = j := by simpa [e] using hk
    subst this
    exact ⟨oj, hj, hwj, fun K hK => h2 K fun a' w' hC => hK a' w' (.inr hC)⟩
end
theorem oper_new {o : Oper} {K : Act → World → Prop} {Q : Exit → Act → World → Prop} {a : Act} {w : World} (ho : o.op = .alloc 25) (R : World → Prop) (hR : R (w.alloc (.cells zer.toArray 25))) (hK : ∀ w', R w' → K (a.put o.dst (.pointer (some ⟨w.heap.size, 0, none⟩))) w') : Oper.wp Try.prog o a w K Q := by
  have h := hK _ hR
  unfold Oper.wp execOp
  simp only [ho]
  go_simp
  exact h
end Go.Proofs.Ytiddlpjnfophhaa
