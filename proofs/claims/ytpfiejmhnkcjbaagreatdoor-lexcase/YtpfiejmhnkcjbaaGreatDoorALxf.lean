/-
  The document's lex: small letters.
-/
import Derived.Test.YtpfiejmhnkcjbaaGreatDoorALxe
import Derived.Laws.IdiomStrings
namespace Go.Proofs.YtpfiejmhnkcjbaaGreatDoor
open Go.RowKit Lx
set_option linter.unusedVariables false
set_option linter.unusedSimpArgs false
/-- Bytes in memory, that may be written. -/
structure CellsL (w : World) (b : Nat) (L : List Nat) : Prop where
  cell : ∀ i, i < L.length → w.cell? ⟨b, i, none⟩ = some (.int .u8 ((L.getD i 0 : Nat) : Int))
  free : ∀ i, i < L.length → w.frozen? ⟨b, i, none⟩ = false
theorem conv_sbL (s : ByteArray) (hs : s.size ≤ 1000000000) (W : World) : ∃ c w', (convert 9 34 (.string s)).run Tryz.prog W = .ok (.slice (some ⟨W.heap.size, 0, none⟩) s.size c) w' ∧ Below W.heap.size W w' ∧ CellsL w' W.heap.size (bts s) := by
  refine ⟨_, _, run_bytes_of_string W 9 34 5 s Tryz.underlying9 Tryz.underlying34 Tryz.underlying5, (Below.drew (Below.refl _ _)).alloc (Nat.le_refl _) _, ?_⟩
  generalize grownCap W s.size 0 5 = c at *
  have hh : ((W.drew.alloc (.cells (bytesRow s c) 5 ((bytesRow s c).size, (bytesRow s c).size + 1))).heap)[W.heap.size]? = some (.cells (bytesRow s c) 5 ((bytesRow s c).size, (bytesRow s c).size + 1)) := by
    show (W.heap.push _)[W.heap.size]? = _
    simp
  refine ⟨fun i hi => ?_, fun i hi => ?_⟩
  · rw [bts_len] at hi
    unfold World.cell?
    simp only [hh]
    rw [bgetL s i hi]
    unfold bytesRow
    rw [Array.getElem?_append_left (by rw [Array.size_map]; exact hi), Array.getElem?_map]
    have h2 : i < s.data.size := hi
    rw [Array.getElem?_eq_getElem h2]
    rfl
  · rw [bts_len] at hi
    unfold World.frozen?
    simp only [hh]
    have : s.size ≤ (bytesRow s c).size := by unfold bytesRow; rw [Array.size_append, Array.size_map]; exact Nat.le_add_right _ _
    simp
    omega
theorem CellsL.set {w : World} {b : Nat} {L : List Nat} (h : CellsL w b L) (n z : Nat) (hn : n < L.length) : CellsL (w.setCell ⟨b, n, none⟩ (.int .u8 (z : Int))) b (L.set n z) := by
  refine ⟨fun i hi => ?_, fun i hi => ?_⟩
  · rw [List.length_set] at hi
    have h1 := h.cell i hi
    by_cases e : i = n
    · subst e
      rw [World.cell?_setCell_same _ _ _ h1]
      congr 2
      rw [List.getD_eq_getElem?_getD, List.getElem?_set, if_pos rfl, if_pos hi]
      rfl
    · rw [World.cell?_setCell_other _ _ _ _ (by intro h; injection h with h1 h2; exact e h2.symm), h1]
      congr 3
      rw [List.getD_eq_getElem?_getD, List.getD_eq_getElem?_getD, List.getElem?_set, if_neg (by omega)]
  · rw [List.length_set] at hi
    rw [World.frozen?_setCell]
    exact h.free i hi
theorem back_L {w : World} {b c : Nat} {L : List Nat} (h : CellsL w b L) (ho : ∀ x ∈ L, x < 256) : (convert 34 9 (.slice (some ⟨b, 0, none⟩) L.length c)).run Tryz.prog w = .ok (.string (ofB L)) w := by
  have := run_convert_bytes_back (P := Tryz.prog) w 34 9 5 ⟨b, 0, none⟩ c (L.map UInt8.ofNat) Tryz.underlying34 Tryz.underlying5 Tryz.underlying9 (fun j hj => by
    have hj' : j < L.length := by simpa using hj
    rw [Addr.add_lit, Nat.zero_add, h.cell j hj', List.getElem_map]
    have hx := ho _ (List.getElem_mem hj')
    rw [List.getD_eq_getElem?_getD, List.getElem?_eq_getElem hj']
    simp
    omega)
  rw [List.length_map] at this
  exact this
theorem sml_oct {L : List Nat} (h : ∀ x ∈ L, x < 256) : ∀ x ∈ sml L, x < 256 := fun x hx => by
  obtain ⟨y, hy, rfl⟩ := List.mem_map.1 hx
  have := h y hy
  show (if 65 ≤ y ∧ y ≤ 90 then y + 32 else y) < 256
  split <;> omega
end Go.Proofs.YtpfiejmhnkcjbaaGreatDoor
