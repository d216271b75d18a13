/-
  A script of steps that came in.
-/
import Derived.Test.YteokjfpppmnebaaPq
import Derived.Deep.Matrix
import Derived.Deep.Slices
import Derived.Deep.SlicePairs
import Derived.SizedLaws
import Derived.ProofKit
namespace Go.Proofs.Yteokjfpppmnebaa
open Go.RowKit Go.ChangeShapes Go.WideShapes Go.Deep
set_option linter.unusedVariables false
theorem weightsAll_mem {H : Type} {P : Program} {e : TypeId} {d : DataW H} {n : Nat} : ∀ {l : List (DataW H)}, d ∈ l → n ∈ d.weights P e → n ∈ DataW.weightsAll P e l
  | x :: r, h, hn => by
    rw [DataW.weightsAll, List.mem_append]
    rcases List.mem_cons.1 h with rfl | h
    · exact .inl hn
    · exact .inr (weightsAll_mem h hn)
theorem bytesSt : Try.prog.bytesOf 33 = 48 := by kernel_rfl
theorem cellsSt : Try.prog.cellsOf 33 = 4 := by kernel_rfl
theorem cells3 : Try.prog.cellsOf 3 = 1 := by kernel_rfl
theorem cells9 : Try.prog.cellsOf 9 = 1 := by kernel_rfl
theorem four {α : Type} : ∀ {l : List α}, l.length = 4 → ∃ a b c d, l = [a, b, c, d]
  | [a, b, c, d], _ => ⟨a, b, c, d, rfl⟩
def StpOk (s : Stp) : Prop := s.key.size ≤ 140737488355328 ∧ s.to.size ≤ 140737488355328
set_option maxRecDepth 8000 in
theorem open_step {H : Type} {enc : TypeId × Value → H} {W : World} {n : Nat} {cs : List Value} {y : DataW H × List MemPlace} (h : DataW.trod enc Try.prog W 0 (fun _ => true) true n 33 cs = some y) (hw : ∀ n ∈ y.1.weights Try.prog 33, n ≤ reachBytes) :
    ∃ s : Stp, cs = stC s ∧ StpOk s := by
  obtain ⟨xs, k, hk, hxy, hlen, hxl, hf⟩ := DataW.trod_struct Try.underlying33 h
  rw [cellsSt] at hlen
  obtain ⟨y0, y1, y2, y3, rfl⟩ := four (show xs.length = 4 from hxl)
  obtain ⟨v0, v1, v2, v3, rfl⟩ := four hlen
  have g0 := hf 0 _ rfl
  have g1 := hf 1 _ rfl
  have g2 := hf 2 _ rfl
  have g3 := hf 3 _ rfl
  simp [cells3, cells9] at g0 g1 g2 g3
  obtain ⟨z0, e0, r0, _⟩ := DataW.trod_int Try.underlying3 g0
  obtain ⟨z1, e1, r1, w1⟩ := DataW.trod_int Try.underlying3 g1
  obtain ⟨s2, e2, r2, _⟩ := DataW.trod_string Try.underlying9 g2
  obtain ⟨s3, e3, r3, _⟩ := DataW.trod_string Try.underlying9 g3
  have hw2 : ∀ (j : Nat) (t : TypeId) (d : DataW H), [(3 : TypeId), 3, 9, 9][j]? = some t → [y0.1, y1.1, y2.1, y3.1][j]? = some d → ∀ n ∈ d.weights Try.prog t, n ≤ reachBytes := fun j t d ht hd n hn => by
    refine hw n ?_
    rw [hxy]
    simp only [DataW.weights, Try.underlying33]
    exact DataW.weights_mem_each (j := j) ht hd n hn
  have hA : s2.size ≤ 140737488355328 := by
    have := hw2 2 9 y2.1 rfl rfl s2.data.toList.length (by rw [r2]; simp [DataW.weights])
    simp only [reachBytes, Array.length_toList] at this
    exact Nat.le_trans this (by decide)
  have hT : s3.size ≤ 140737488355328 := by
    have := hw2 3 9 y3.1 rfl rfl s3.data.toList.length (by rw [r3]; simp [DataW.weights])
    simp only [reachBytes, Array.length_toList] at this
    exact Nat.le_trans this (by decide)
  simp only [List.cons.injEq, and_true] at e0 e1 e2 e3
  refine ⟨⟨z0, z1, s2, s3⟩, ?_, hA, hT⟩
  rw [e0, e1, e2, e3]
  rfl
theorem open_steps {H : Type} {enc : TypeId × Value → H} {W : World} {fuel len cap : Nat} {a : Option Addr} {x : DataW H × List MemPlace} (hf : DataW.trod enc Try.prog W 0 (fun _ => true) true fuel 22 (Value.slice a len cap).cells.toList = some x)
    (hw : ∀ n ∈ x.1.weights Try.prog 22, n ≤ reachBytes) : ∃ ss : List Stp, ss.length = len ∧ Scr W a ss ∧ (∀ y ∈ ss, StpOk y) ∧ len ≤ 140737488355328 := by
  rcases open_slice Try.underlying22 hf with ⟨hcs, _⟩ | ⟨ad, len', cap', m, n, D, Pl, hcs, _, hl, hm, hmm, hx, hr⟩
  · simp [Value.cells] at hcs
    obtain ⟨rfl, rfl, rfl⟩ := hcs
    exact ⟨[], rfl, .inl rfl, (fun y hy => by cases hy), by omega⟩
  · simp [Value.cells] at hcs
    obtain ⟨rfl, rfl, rfl⟩ := hcs
    simp only [if_true] at hmm
    have each : ∀ i, i < len → ∃ s : Stp, (∀ j v, (stC s)[j]? = some v → W.cell? ((ad.add (i * 4)).add j) = some v) ∧ StpOk s := by
      intro i hi
      obtain ⟨cs', h1, h2⟩ := hr i (by omega)
      rw [cellsSt] at h1
      obtain ⟨_, hlen, hcell⟩ := World.cells?_some h1
      obtain ⟨s, e, hs⟩ := open_step h2 (fun n hn => hw n (by
        rw [hx]
        simp only [DataW.weights, Try.underlying22]
        exact List.mem_cons_of_mem _ (List.mem_append.2 (.inl (weightsAll_mem (d := D i) (List.mem_map.2 ⟨i, List.mem_range.2 hi, rfl⟩) hn)))))
      subst e
      refine ⟨s, fun j v hj => ?_, hs⟩
      have hj4 : j < 4 := by have := (List.getElem?_eq_some_iff.1 hj).1; exact this
      have h5 := hcell j hj4
      rw [h5]
      simpa using hj
    have hlen : len ≤ 140737488355328 := by
      have := hw _ (by rw [hx]; simp only [DataW.weights, Try.underlying22]; exact List.mem_cons_self)
      rw [bytesSt] at this
      simp only [List.length_map, List.length_range, reachBytes] at this
      omega
    by_cases h0 : len = 0
    · subst h0
      exact ⟨[], rfl, .inl rfl, (fun y hy => by cases hy), by omega⟩
    have hq : ∃ q : Nat → Stp, ∀ i, i < len → (∀ j v, (stC (q i))[j]? = some v → W.cell? ((ad.add (i * 4)).add j) = some v) ∧ StpOk (q i) :=
      ⟨fun i => if h : i < len then Classical.choose (each i h) else ⟨0, 0, .empty, .empty⟩, fun i hi => by simp only [hi, dif_pos]; exact Classical.choose_spec (each i hi)⟩
    obtain ⟨q, hq⟩ := hq
    refine ⟨(List.range len).map q, by simp, ?_, fun y hy => ?_, hlen⟩
    · obtain ⟨b, off, spot⟩ := ad
      have hs : spot = none := by simpa [Addr.add] using World.cell?_spot ((hq 0 (by omega)).1 0 _ rfl)
      subst hs
      refine .inr ⟨b, off, rfl, fun k y hy => ?_⟩
      have hk : k < len := by
        have := (List.getElem?_eq_some_iff.1 hy).1
        simpa using this
      rw [List.getElem?_map, List.getElem?_range hk] at hy
      simp only [Option.map_some, Option.some.injEq] at hy
      subst hy
      intro j v hj
      have h6 := (hq k hk).1 j v hj
      simp only [Addr.add_lit] at h6
      exact h6
    · obtain ⟨i, hi, rfl⟩ := List.mem_map.1 hy
      exact (hq i (List.mem_range.1 hi)).2
#print axioms open_steps
end Go.Proofs.Yteokjfpppmnebaa
