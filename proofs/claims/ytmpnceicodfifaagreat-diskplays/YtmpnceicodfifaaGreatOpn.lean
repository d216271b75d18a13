/-
  A script of steps that came in.
-/
import Derived.Test.YtmpnceicodfifaaGreatPly
import Derived.Deep.Matrix
import Derived.Deep.Slices
import Derived.Deep.SlicePairs
import Derived.SizedLaws
import Derived.ProofKit
namespace Go.Proofs.YtmpnceicodfifaaGreat
open Go.RowKit Go.ChangeShapes Go.WideShapes Go.Deep
set_option linter.unusedVariables false
theorem weightsAll_mem {H : Type} {P : Program} {e : TypeId} {d : DataW H} {n : Nat} : ∀ {l : List (DataW H)}, d ∈ l → n ∈ d.weights P e → n ∈ DataW.weightsAll P e l
  | x :: r, h, hn => by
    rw [DataW.weightsAll, List.mem_append]
    rcases List.mem_cons.1 h with rfl | h
    · exact .inl hn
    · exact .inr (weightsAll_mem h hn)
theorem bytes5 : Tryz.prog.bytesOf 5 = 1 := by kernel_rfl
theorem bytes34 : Tryz.prog.bytesOf 34 = 72 := by kernel_rfl
theorem cells34 : Tryz.prog.cellsOf 34 = 5 := by kernel_rfl
theorem cells3 : Tryz.prog.cellsOf 3 = 1 := by kernel_rfl
theorem cells9 : Tryz.prog.cellsOf 9 = 1 := by kernel_rfl
theorem cells32 : Tryz.prog.cellsOf 32 = 1 := by kernel_rfl
theorem row_byt2 {w : World} {a : Option Addr} {len cap : Nat} {zs : List Int} (h : IsRow .u8 w a len cap zs) : ∃ l : List Nat, l.length = len ∧ Byt w a l ∧ Oct l ∧ (a = none → cap = 0) := by
  obtain ⟨l, h1, h2, h3, h4, _⟩ := row_byt h
  exact ⟨l, h1, h2, h3, h4⟩
theorem five {α : Type} : ∀ {l : List α}, l.length = 5 → ∃ a b c d e, l = [a, b, c, d, e]
  | [a, b, c, d, e], _ => ⟨a, b, c, d, e, rfl⟩
set_option maxRecDepth 8000 in
theorem open_step {H : Type} {enc : TypeId × Value → H} {W : World} {n : Nat} {cs : List Value} {y : DataW H × List MemPlace} (h : DataW.trod enc Tryz.prog W 0 (fun _ => true) true n 34 cs = some y) (hw : ∀ n ∈ y.1.weights Tryz.prog 34, n ≤ reachBytes) :
    ∃ s : Sp, cs = [.int .i64 s.kind, .int .i64 s.n, .string s.A, .string s.T, .slice s.a0 s.l.length s.cap] ∧ SpOk W s := by
  obtain ⟨xs, k, hk, hxy, hlen, hxl, hf⟩ := DataW.trod_struct Tryz.underlying34 h
  rw [cells34] at hlen
  obtain ⟨y0, y1, y2, y3, y4, rfl⟩ := five (show xs.length = 5 from hxl)
  obtain ⟨v0, v1, v2, v3, v4, rfl⟩ := five hlen
  have g0 := hf 0 _ rfl
  have g1 := hf 1 _ rfl
  have g2 := hf 2 _ rfl
  have g3 := hf 3 _ rfl
  have g4 := hf 4 _ rfl
  simp [cells3, cells9, cells32] at g0 g1 g2 g3 g4
  obtain ⟨z0, e0, r0, _⟩ := DataW.trod_int Tryz.underlying3 g0
  obtain ⟨z1, e1, r1, w1⟩ := DataW.trod_int Tryz.underlying3 g1
  obtain ⟨s2, e2, r2, _⟩ := DataW.trod_string Tryz.underlying9 g2
  obtain ⟨s3, e3, r3, _⟩ := DataW.trod_string Tryz.underlying9 g3
  have hw2 : ∀ (j : Nat) (t : TypeId) (d : DataW H), [(3 : TypeId), 3, 9, 9, 32][j]? = some t → [y0.1, y1.1, y2.1, y3.1, y4.1][j]? = some d → ∀ n ∈ d.weights Tryz.prog t, n ≤ reachBytes := fun j t d ht hd n hn => by
    refine hw n ?_
    rw [hxy]
    simp only [DataW.weights, Tryz.underlying34]
    exact DataW.weights_mem_each (j := j) ht hd n hn
  have hA : s2.size ≤ 140737488355328 := by
    have := hw2 2 9 y2.1 rfl rfl s2.data.toList.length (by rw [r2]; simp [DataW.weights])
    simp only [reachBytes, Array.length_toList] at this
    exact Nat.le_trans this (by decide)
  have hT : s3.size ≤ 140737488355328 := by
    have := hw2 3 9 y3.1 rfl rfl s3.data.toList.length (by rw [r3]; simp [DataW.weights])
    simp only [reachBytes, Array.length_toList] at this
    exact Nat.le_trans this (by decide)
  obtain ⟨a0, len, cap, zs, e4, hrow, hl4⟩ : ∃ a0 len cap zs, v4 = .slice a0 len cap ∧ IsRow .u8 W a0 len cap zs ∧ len ≤ 140737488355328 := by
    rcases open_ints Tryz.underlying32 Tryz.underlying5 (by kernel_rfl) g4 with ⟨hcs, _⟩ | ⟨x, l, c, zs, hcs, _, hl, hm, hz, hx, hcell, hwz⟩
    · simp at hcs
      exact ⟨none, 0, 0, [], hcs, .inl ⟨rfl, rfl, rfl, rfl⟩, by omega⟩
    · simp at hcs
      refine ⟨some x, l, c, zs, hcs, .inr ⟨_, rfl, hl, hm, by simpa using hz, hcell, hwz⟩, ?_⟩
      have := hw2 4 32 y4.1 rfl rfl _ (by rw [hx]; simp only [DataW.weights, Tryz.underlying32]; exact List.mem_cons_self)
      rw [bytes5] at this
      simp only [lits, List.length_map, List.length_take, List.length_drop, reachBytes] at this
      simp only [if_true] at hz
      omega
  obtain ⟨l, q1, q2, q3, q4⟩ := row_byt2 hrow
  have hn1 : z1 < 9223372036854775808 := by have := (bounds_i64 w1).2; omega
  simp only [List.cons.injEq, and_true] at e0 e1 e2 e3
  refine ⟨⟨z0, z1, s2, s3, a0, cap, l⟩, ?_, ⟨q2, q4, q3, hn1, by simp only; omega, by simp only; omega, by simp only; omega⟩⟩
  rw [e0, e1, e2, e3, e4, q1]
theorem open_steps {H : Type} {enc : TypeId × Value → H} {W : World} {fuel len cap : Nat} {a : Option Addr} {x : DataW H × List MemPlace} (hf : DataW.trod enc Tryz.prog W 0 (fun _ => true) true fuel 22 (Value.slice a len cap).cells.toList = some x)
    (hw : ∀ n ∈ x.1.weights Tryz.prog 22, n ≤ reachBytes) : ∃ ss : List Sp, ss.length = len ∧ Scr W a ss ∧ (∀ y ∈ ss, SpOk W y) ∧ len ≤ 140737488355328 := by
  rcases open_slice Tryz.underlying22 hf with ⟨hcs, _⟩ | ⟨ad, len', cap', m, n, D, Pl, hcs, _, hl, hm, hmm, hx, hr⟩
  · simp [Value.cells] at hcs
    obtain ⟨rfl, rfl, rfl⟩ := hcs
    exact ⟨[], rfl, .inl rfl, (fun y hy => by cases hy), by omega⟩
  · simp [Value.cells] at hcs
    obtain ⟨rfl, rfl, rfl⟩ := hcs
    simp only [if_true] at hmm
    have each : ∀ i, i < len → ∃ s : Sp, (W.cell? ((ad.add (i * 5)).add 0) = some (.int .i64 s.kind) ∧ W.cell? ((ad.add (i * 5)).add 1) = some (.int .i64 s.n) ∧ W.cell? ((ad.add (i * 5)).add 2) = some (.string s.A) ∧ W.cell? ((ad.add (i * 5)).add 3) = some (.string s.T) ∧ W.cell? ((ad.add (i * 5)).add 4) = some (.slice s.a0 s.l.length s.cap)) ∧ SpOk W s := by
      intro i hi
      obtain ⟨cs', h1, h2⟩ := hr i (by omega)
      rw [cells34] at h1
      obtain ⟨_, hlen, hcell⟩ := World.cells?_some h1
      obtain ⟨s, e, hs⟩ := open_step h2 (fun n hn => hw n (by
        rw [hx]
        simp only [DataW.weights, Tryz.underlying22]
        exact List.mem_cons_of_mem _ (List.mem_append.2 (.inl (weightsAll_mem (d := D i) (List.mem_map.2 ⟨i, List.mem_range.2 hi, rfl⟩) hn)))))
      subst e
      exact ⟨s, ⟨hcell 0 (by omega), hcell 1 (by omega), hcell 2 (by omega), hcell 3 (by omega), hcell 4 (by omega)⟩, hs⟩
    have hlen : len ≤ 140737488355328 := by
      have := hw _ (by rw [hx]; simp only [DataW.weights, Tryz.underlying22]; exact List.mem_cons_self)
      rw [bytes34] at this
      simp only [List.length_map, List.length_range, reachBytes] at this
      omega
    by_cases h0 : len = 0
    · subst h0
      exact ⟨[], rfl, .inl rfl, (fun y hy => by cases hy), by omega⟩
    have hq : ∃ q : Nat → Sp, ∀ i, i < len → (W.cell? ((ad.add (i * 5)).add 0) = some (.int .i64 (q i).kind) ∧ W.cell? ((ad.add (i * 5)).add 1) = some (.int .i64 (q i).n) ∧ W.cell? ((ad.add (i * 5)).add 2) = some (.string (q i).A) ∧ W.cell? ((ad.add (i * 5)).add 3) = some (.string (q i).T) ∧ W.cell? ((ad.add (i * 5)).add 4) = some (.slice (q i).a0 (q i).l.length (q i).cap)) ∧ SpOk W (q i) :=
      ⟨fun i => if h : i < len then Classical.choose (each i h) else ⟨0, 0, .empty, .empty, none, 0, []⟩, fun i hi => by simp only [hi, dif_pos]; exact Classical.choose_spec (each i hi)⟩
    obtain ⟨q, hq⟩ := hq
    refine ⟨(List.range len).map q, by simp, ?_, fun y hy => ?_, hlen⟩
    · obtain ⟨b, off, spot⟩ := ad
      have hs : spot = none := by simpa [Addr.add] using World.cell?_spot (hq 0 (by omega)).1.1
      subst hs
      refine .inr ⟨b, off, rfl, fun k y hy => ?_⟩
      have hk : k < len := by
        have := (List.getElem?_eq_some_iff.1 hy).1
        simpa using this
      rw [List.getElem?_map, List.getElem?_range hk] at hy
      simp only [Option.map_some, Option.some.injEq] at hy
      subst hy
      obtain ⟨⟨h0, h1, h2, h3, h4⟩, _⟩ := hq k hk
      simp only [Addr.add_lit, Nat.add_zero] at h0 h1 h2 h3 h4
      exact ⟨h0, h1, h2, h3, h4⟩
    · obtain ⟨i, hi, rfl⟩ := List.mem_map.1 hy
      exact (hq i (List.mem_range.1 hi)).2
end Go.Proofs.YtmpnceicodfifaaGreat
