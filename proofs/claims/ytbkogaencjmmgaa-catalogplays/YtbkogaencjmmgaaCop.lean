/-
  Entries that come in.
-/
import Derived.Test.YtbkogaencjmmgaaCm
import Derived.Deep.Matrix
import Derived.Deep.Slices
import Derived.Deep.SlicePairs
import Derived.SizedLaws
import Derived.ProofKit
namespace Go.Proofs.Ytbkogaencjmmgaa
open Go.RowKit Go.ChangeShapes Go.WideShapes Go.Deep
set_option linter.unusedVariables false
theorem weightsAll_mem {H : Type} {P : Program} {e : TypeId} {d : DataW H} {n : Nat} : ∀ {l : List (DataW H)}, d ∈ l → n ∈ d.weights P e → n ∈ DataW.weightsAll P e l
  | x :: r, h, hn => by
    rw [DataW.weightsAll, List.mem_append]
    rcases List.mem_cons.1 h with rfl | h
    · exact .inl hn
    · exact .inr (weightsAll_mem h hn)
theorem bytesEn : Try.prog.bytesOf 42 = 192 := by kernel_rfl
theorem cellsEn : Try.prog.cellsOf 42 = 46 := by kernel_rfl
theorem nine {α : Type} : ∀ {l : List α}, l.length = 9 → ∃ a b c d e f g h i, l = [a, b, c, d, e, f, g, h, i]
  | [a, b, c, d, e, f, g, h, i], _ => ⟨a, b, c, d, e, f, g, h, i, rfl⟩
theorem three {α : Type} : ∀ {l : List α}, l.length = 46 → ∃ a b c r, l = a :: b :: c :: r
  | a :: b :: c :: r, _ => ⟨a, b, c, r, rfl⟩
set_option maxRecDepth 8000 in
theorem open_entry {H : Type} {enc : TypeId × Value → H} {W : World} {n : Nat} {cs : List Value} {y : DataW H × List MemPlace} (h : DataW.trod enc Try.prog W 0 (fun _ => true) true n 42 cs = some y) (hw : ∀ n ∈ y.1.weights Try.prog 42, n ≤ reachBytes) :
    ∃ s : Ent, s.ec = cs ∧ EntOk s := by
  obtain ⟨xs, k, hk, hxy, hlen, hxl, hf⟩ := DataW.trod_struct Try.underlying42 h
  rw [cellsEn] at hlen
  obtain ⟨y0, y1, y2, y3, y4, y5, y6, y7, y8, rfl⟩ := nine (show xs.length = 9 from hxl)
  obtain ⟨v0, v1, v2, r, rfl⟩ := three hlen
  have g0 := hf 0 _ rfl
  have g1 := hf 1 _ rfl
  have g2 := hf 2 _ rfl
  simp [cells3, cells9] at g0 g1 g2
  obtain ⟨z0, e0, r0, _⟩ := DataW.trod_int Try.underlying3 g0
  obtain ⟨s1, e1, r1, _⟩ := DataW.trod_string Try.underlying9 g1
  obtain ⟨z2, e2, r2, w2⟩ := DataW.trod_int Try.underlying3 g2
  have hA : s1.size ≤ 140737488355328 := by
    have := hw s1.data.toList.length (by
      rw [hxy]
      simp only [DataW.weights, Try.underlying42]
      exact DataW.weights_mem_each (j := 1) (t := 9) (d := y1.1) rfl rfl _ (by rw [r1]; simp [DataW.weights]))
    simp only [reachBytes, Array.length_toList] at this
    exact Nat.le_trans this (by decide)
  simp only [List.cons.injEq, and_true] at e0 e1 e2
  subst e0 e1 e2
  exact ⟨⟨z0, z2, s1, _⟩, rfl, ⟨⟨hlen, rfl, rfl, rfl⟩, w2, hA⟩⟩
theorem open_entries {H : Type} {enc : TypeId × Value → H} {W : World} {fuel len cap : Nat} {a : Option Addr} {x : DataW H × List MemPlace} (hf : DataW.trod enc Try.prog W 0 (fun _ => true) true fuel 22 (Value.slice a len cap).cells.toList = some x)
    (hw : ∀ n ∈ x.1.weights Try.prog 22, n ≤ reachBytes) : ∃ ss : List Ent, ss.length = len ∧ Scr W a ss ∧ (∀ y ∈ ss, EntOk y) ∧ len ≤ 140737488355328 := by
  rcases open_slice Try.underlying22 hf with ⟨hcs, _⟩ | ⟨ad, len', cap', m, n, D, Pl, hcs, _, hl, hm, hmm, hx, hr⟩
  · simp [Value.cells] at hcs
    obtain ⟨rfl, rfl, rfl⟩ := hcs
    exact ⟨[], rfl, .inl rfl, (fun y hy => by cases hy), by omega⟩
  · simp [Value.cells] at hcs
    obtain ⟨rfl, rfl, rfl⟩ := hcs
    simp only [if_true] at hmm
    have each : ∀ i, i < len → ∃ s : Ent, (∀ j v, s.ec[j]? = some v → W.cell? ((ad.add (i * 46)).add j) = some v) ∧ EntOk s := by
      intro i hi
      obtain ⟨cs', h1, h2⟩ := hr i (by omega)
      rw [cellsEn] at h1
      obtain ⟨_, hlen, hcell⟩ := World.cells?_some h1
      obtain ⟨s, e, hs⟩ := open_entry h2 (fun n hn => hw n (by
        rw [hx]
        simp only [DataW.weights, Try.underlying22]
        exact List.mem_cons_of_mem _ (List.mem_append.2 (.inl (weightsAll_mem (d := D i) (List.mem_map.2 ⟨i, List.mem_range.2 hi, rfl⟩) hn)))))
      refine ⟨s, fun j v hj => ?_, hs⟩
      rw [e] at hj
      have hj4 : j < 46 := by have := (List.getElem?_eq_some_iff.1 hj).1; have := hs.en.len; rw [e] at this; omega
      have h5 := hcell j hj4
      rw [h5]
      simpa using hj
    have hlen : len ≤ 140737488355328 := by
      have := hw _ (by rw [hx]; simp only [DataW.weights, Try.underlying22]; exact List.mem_cons_self)
      rw [bytesEn] at this
      simp only [List.length_map, List.length_range, reachBytes] at this
      omega
    by_cases h0 : len = 0
    · subst h0
      exact ⟨[], rfl, .inl rfl, (fun y hy => by cases hy), by omega⟩
    have hq : ∃ q : Nat → Ent, ∀ i, i < len → (∀ j v, (q i).ec[j]? = some v → W.cell? ((ad.add (i * 46)).add j) = some v) ∧ EntOk (q i) :=
      ⟨fun i => if h : i < len then Classical.choose (each i h) else ⟨0, 0, .empty, []⟩, fun i hi => by simp only [hi, dif_pos]; exact Classical.choose_spec (each i hi)⟩
    obtain ⟨q, hq⟩ := hq
    refine ⟨(List.range len).map q, by simp, ?_, fun y hy => ?_, hlen⟩
    · obtain ⟨b, off, spot⟩ := ad
      have hs : spot = none := by simpa [Addr.add] using World.cell?_spot ((hq 0 (by omega)).1 0 _ (hq 0 (by omega)).2.en.k)
      subst hs
      refine .inr ⟨b, off, rfl, fun k y hy => ?_⟩
      have hk : k < len := by
        have := (List.getElem?_eq_some_iff.1 hy).1
        simpa using this
      rw [List.getElem?_map, List.getElem?_range hk] at hy
      simp only [Option.map_some, Option.some.injEq] at hy
      subst hy
      intro j v hj
      have h6 := (hq k hk).1 j v hj
      simp only [Addr.add_lit] at h6
      exact h6
    · obtain ⟨i, hi, rfl⟩ := List.mem_map.1 hy
      exact (hq i (List.mem_range.1 hi)).2
#print axioms open_entries
end Go.Proofs.Ytbkogaencjmmgaa
