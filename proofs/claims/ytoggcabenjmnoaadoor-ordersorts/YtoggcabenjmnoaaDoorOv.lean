/-
  A list of values that comes in.
-/
import Derived.Test.YtoggcabenjmnoaaDoorKj
namespace Go.Proofs.YtoggcabenjmnoaaDoor
open Go.ChangeShapes Go.WideShapes Go.RowKit
set_option linter.unusedVariables false
set_option maxRecDepth 8000 in
theorem open_list {H : Type} {enc : TypeId × Value → H} {W : World} {fuel : Nat} {v5 : Value} {y : DataW H × List MemPlace} (h : DataW.trod enc Tryd.prog W 0 (fun _ => true) true fuel 22 [v5] = some y)
    (hw : ∀ n ∈ y.1.weights Tryd.prog 22, n ≤ reachBytes) : ∃ ka kc, ∃ f : Fo, v5 = .slice ka f.list.length kc ∧ Slc W ka f ∧ Cap ka f.list.length kc ∧ f.list.length ≤ 140737488355328 ∧ Wf f := by
  rcases DataW.trod_slice Tryd.underlying22 h with ⟨hcs, _⟩ | ⟨ad, len, cap, elems, rest, m, hm0, hcs, hx, _, hl, hm, hel, hei, _, _⟩
  · simp at hcs
    exact ⟨none, 0, .nil, hcs, .inl rfl, ⟨Nat.le_refl _, fun _ => rfl, by omega⟩, by simp [Fo.list], trivial⟩
  · simp only [List.cons.injEq, and_true] at hcs
    have hlen : len ≤ 140737488355328 := by
      have := hw _ (by rw [hx]; simp only [DataW.weights, Tryd.underlying22]; exact List.mem_cons_self)
      rw [bytes25] at this
      simp only [List.length_map, reachBytes] at this
      omega
    unfold maxLen at hm
    have each : ∀ i, i < len → ∃ p, (∃ na nc ka kc, W.cells? 0 (ad.add (i * 6)) 6 = some (six p.1 na nc ka p.2.list.length kc) ∧ Vl W p na nc ka kc) ∧ WfV p := by
      intro i hi
      have hh := hei i hi
      rw [List.getElem?_eq_getElem (by omega)] at hh
      obtain ⟨cs', c1, c2⟩ := Option.bind_eq_some_iff.1 hh
      obtain ⟨p, na', nc', ka', kc', d1, d2, d3⟩ := open_val m c2 (fun n hn => hw n (by
        rw [hx]
        simp only [DataW.weights, Tryd.underlying22]
        refine List.mem_cons_of_mem _ (List.mem_append.2 (.inl (weightsAll_mem (d := elems[i].1) (List.mem_map.2 ⟨elems[i], List.getElem_mem _, rfl⟩) hn)))))
      rw [cells25] at c1
      exact ⟨p, ⟨na', nc', ka', kc', by rw [← d1]; exact c1, d2⟩, d3⟩
    by_cases h0 : len = 0
    · subst h0
      exact ⟨some ad, cap, .nil, hcs, .inl rfl, ⟨by simp [Fo.list], (fun e => by cases e), by omega⟩, by simp [Fo.list], trivial⟩
    obtain ⟨b, off, spot⟩ := ad
    have hs : spot = none := by
      obtain ⟨p, ⟨na', nc', ka', kc', c1, _⟩, _⟩ := each 0 (by omega)
      obtain ⟨_, _, hcell⟩ := World.cells?_some c1
      simpa [Addr.add] using World.cell?_spot (hcell 0 (by simp))
    subst hs
    obtain ⟨f, f1, f2, f3⟩ := mkFo (w := W) (b := b) len off (fun i hi => by
      obtain ⟨p, ⟨na', nc', ka', kc', c1, c2⟩, c3⟩ := each i hi
      obtain ⟨_, _, hcell⟩ := World.cells?_some c1
      simp only [Addr.add_lit] at hcell
      exact ⟨p, ⟨na', nc', ka', kc', ⟨hcell 0 (by simp), hcell 1 (by simp), hcell 2 (by simp), hcell 3 (by simp), hcell 4 (by simp), hcell 5 (by simp)⟩, c2⟩, c3⟩)
    exact ⟨_, cap, f, by rw [hcs, f1], .inr ⟨b, off, rfl, f2⟩, ⟨by omega, (fun e => by cases e), by omega⟩, by omega, f3⟩
theorem open_vals {H : Type} {enc : TypeId × Value → H} {W : World} {fuel len cap : Nat} {a : Option Addr} {x : DataW H × List MemPlace} (hf : DataW.trod enc Tryd.prog W 0 (fun _ => true) true fuel 22 (Value.slice a len cap).cells.toList = some x)
    (hw : ∀ n ∈ x.1.weights Tryd.prog 22, n ≤ reachBytes) : ∃ f : Fo, f.list.length = len ∧ Lv W a cap f ∧ len ≤ 140737488355328 ∧ Wf f := by
  obtain ⟨ka, kc, f, e, h1, h2, h3, h4⟩ := open_list (v5 := .slice a len cap) hf hw
  injection e with e1 e2 e3
  subst e1 e2 e3
  exact ⟨f, rfl, ⟨.inl rfl, ⟨Nat.le_refl _, fun _ => rfl, by omega⟩, h1, h2⟩, h3, h4⟩
end Go.Proofs.YtoggcabenjmnoaaDoor
