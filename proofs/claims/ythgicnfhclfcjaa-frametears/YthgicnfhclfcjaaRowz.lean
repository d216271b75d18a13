/-
  A slice of rows of bytes that came in.
-/
import Derived.Test.YthgicnfhclfcjaaKnown
import Derived.Deep.Matrix
import Derived.SizedLaws
import Derived.ProofKit
namespace Go.Proofs.Ythgicnfhclfcjaa
open Go.RowKit Go.ChangeShapes Go.WideShapes Go.Deep
/-- One row: where it lies, its room, its bytes. -/
abbrev Rw := Option Addr × Nat × List Nat
structure RowAt (w : World) (r : Rw) : Prop where
  byt : Byt w r.1 r.2.2
  oct : Oct r.2.2
  nil : r.1 = none → r.2.1 = 0
  len : r.2.2.length ≤ 140737488351232
def Rws (w : World) (a : Option Addr) (rs : List Rw) : Prop :=
  rs = [] ∨ ∃ b off, a = some ⟨b, off, none⟩ ∧ ∀ i r, rs[i]? = some r → w.cell? ⟨b, off + i, none⟩ = some (.slice r.1 r.2.2.length r.2.1) ∧ RowAt w r
theorem Rws.below {w w' : World} {a : Option Addr} {rs : List Rw} (h : Rws w a rs) (hb : Below w.heap.size w w') : Rws w' a rs := by
  rcases h with h | ⟨b, off, rfl, h⟩
  · exact .inl h
  · refine .inr ⟨b, off, rfl, fun i r hr => ?_⟩
    obtain ⟨h1, h2⟩ := h i r hr
    exact ⟨(hb.cell (p := ⟨b, off + i, none⟩) (cell_lt h1)).trans h1, h2.byt.below hb, h2.oct, h2.nil, h2.len⟩
theorem weightsAll_mem {H : Type} {P : Program} {e : TypeId} {d : DataW H} {n : Nat} : ∀ {l : List (DataW H)}, d ∈ l → n ∈ d.weights P e → n ∈ DataW.weightsAll P e l
  | x :: r, h, hn => by
    rw [DataW.weightsAll, List.mem_append]
    rcases List.mem_cons.1 h with rfl | h
    · exact .inl hn
    · exact .inr (weightsAll_mem h hn)
theorem bytes22 : Try.prog.bytesOf 22 = 24 := by kernel_rfl
theorem bytes5 : Try.prog.bytesOf 5 = 1 := by kernel_rfl
theorem open_rows {H : Type} {enc : TypeId × Value → H} {W : World} {fuel len cap : Nat} {a : Option Addr} {x : DataW H × List MemPlace} (hf : DataW.trod enc Try.prog W 0 (fun _ => true) true fuel 36 (Value.slice a len cap).cells.toList = some x)
    (hw : ∀ n ∈ x.1.weights Try.prog 36, n ≤ reachBytes) : ∃ rs : List Rw, rs.length = len ∧ Rws W a rs ∧ len * 24 ≤ 140737488351232 := by
  rcases open_int_rows Try.underlying36 Try.underlying22 Try.underlying5 (by kernel_rfl) (by kernel_rfl) hf with ⟨hcs, _⟩ | ⟨ad, len', cap', A, L, C, Z, hcs, _, hl, hm, hx, hr⟩
  · simp [Value.cells] at hcs
    obtain ⟨rfl, rfl, rfl⟩ := hcs
    exact ⟨[], rfl, .inl rfl, by omega⟩
  · simp [Value.cells] at hcs
    obtain ⟨rfl, rfl, rfl⟩ := hcs
    subst hx
    refine ⟨(List.range len).map fun r => (A r, C r, ((Z r).take (L r)).map Int.toNat), by simp, ?_, ?_⟩
    · by_cases h0 : len = 0
      · left; subst h0; rfl
      · right
        obtain ⟨b, off, spot⟩ := ad
        have hs : spot = none := by simpa [Addr.add] using World.cell?_spot (hr 0 (by omega)).1
        subst hs
        refine ⟨b, off, rfl, fun i r hir => ?_⟩
        have hi : i < len := by
          have := (List.getElem?_eq_some_iff.1 hir).1
          simpa using this
        rw [List.getElem?_map, List.getElem?_range hi] at hir
        simp only [Option.map_some, Option.some.injEq] at hir
        subst hir
        obtain ⟨h1, h2, h3, h4, h5, h6, h7⟩ := hr i (by omega)
        have hlen : (((Z i).take (L i)).map Int.toNat).length = L i := by simp; omega
        refine ⟨?_, ?_, ?_, h6, ?_⟩
        · rw [Addr.add_lit] at h1
          rw [h1]
          simp only [hlen]
        · show Byt W (A i) (((Z i).take (L i)).map Int.toNat)
          cases hA : A i with
          | none =>
            left
            have := h6 hA
            exact List.eq_nil_of_length_eq_zero (by rw [hlen]; omega)
          | some a' =>
            have hrow : IsRow .u8 W (A i) (L i) (C i) (Z i) := .inr ⟨a', hA, h2, h3, h4, fun j hj => (h7 a' hA).2 j (by omega), h5⟩
            rw [hA] at hrow
            by_cases hL : L i = 0
            · left; exact List.eq_nil_of_length_eq_zero (by rw [hlen]; exact hL)
            · right
              obtain ⟨b', off', spot'⟩ := a'
              have hc := (h7 _ hA).2
              have hs' : spot' = none := by simpa [Addr.add] using World.cell?_spot (hc 0 (by omega))
              subst hs'
              refine ⟨b', off', rfl, fun j hj => ?_⟩
              rw [hlen] at hj
              have hcj := hc j (by omega)
              rw [Addr.add_lit] at hcj
              have hbj := bounds_u8 (h5 ((Z i)[j]'(by omega)) (List.getElem_mem _))
              rw [hcj]
              have e1 : (Z i).getD j 0 = (Z i)[j]'(by omega) := by simp [List.getD_eq_getElem?_getD, List.getElem?_eq_getElem (show j < (Z i).length by omega)]
              have e2 : (((Z i).take (L i)).map Int.toNat).getD j 0 = ((Z i)[j]'(by omega)).toNat := by
                simp [List.getD_eq_getElem?_getD, hj, List.getElem?_eq_getElem (show j < (Z i).length by omega)]
              rw [e1, e2, Int.toNat_of_nonneg hbj.1]
        · intro z hz
          obtain ⟨y, hy, rfl⟩ := List.mem_map.1 hz
          have := bounds_u8 (h5 y (List.mem_of_mem_take hy))
          omega
        · show (((Z i).take (L i)).map Int.toNat).length ≤ 140737488351232
          rw [hlen]
          cases hA : A i with
          | none => have := h6 hA; omega
          | some a' =>
            have hin : ((lits (H := H) .u8 ((Z i).take (L i))).length + (lits (H := H) .u8 ((Z i).drop (L i))).length) * Try.prog.bytesOf 5 ∈ (intRow (H := H) .u8 (A i) (L i) (Z i)).weights Try.prog 22 := by
              rw [hA]
              simp only [intRow, DataW.weights, Try.underlying22]
              exact List.mem_cons_self
            have := hw _ (by
              simp only [DataW.weights, Try.underlying36]
              refine List.mem_cons_of_mem _ (List.mem_append.2 (.inl (weightsAll_mem (d := intRow .u8 (A i) (L i) (Z i)) ?_ hin)))
              exact List.mem_map.2 ⟨i, List.mem_range.2 hi, rfl⟩)
            rw [bytes5] at this
            simp only [lits, List.length_map, List.length_take, List.length_drop, reachBytes] at this
            omega
    · have := hw _ (by
        simp only [DataW.weights, Try.underlying36]
        exact List.mem_cons_self)
      rw [bytes22] at this
      simp only [List.length_map, List.length_range, reachBytes] at this
      omega
#print axioms open_rows
end Go.Proofs.Ythgicnfhclfcjaa
