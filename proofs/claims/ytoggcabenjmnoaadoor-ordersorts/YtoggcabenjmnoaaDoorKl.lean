/-
  order.Above.
-/
import Derived.Test.YtoggcabenjmnoaaDoorKj
import Derived.Laws.IdiomStrings
namespace Go.Proofs.YtoggcabenjmnoaaDoor
open Go.RowKit Math
set_option linter.unusedVariables false
set_option linter.unusedSimpArgs false
/-- How Above's text comes of its own: it is as long as the text without the bytes ff at its end, and the last one of these is one more. -/
structure Abv (L : List Nat) (n : Nat) : Prop where
  le : n ≤ L.length
  ff : ∀ j, n ≤ j → j < L.length → L.getD j 0 = 255
  nf : 0 < n → L.getD (n - 1) 0 ≠ 255
def abvL (L : List Nat) (n : Nat) : List Nat := L.take (n - 1) ++ [L.getD (n - 1) 0 + 1]
theorem bts_get (s : ByteArray) (n : Nat) (h : n < s.size) : (bts s).getD n 0 = (s[n]'h).toNat := by
  rw [List.getD_eq_getElem?_getD, bts, List.getElem?_map]
  have h2 : n < s.data.toList.length := by rw [Array.length_toList]; exact h
  rw [List.getElem?_eq_getElem h2]
  rfl
theorem bts_take (s : ByteArray) (n : Nat) (h : n ≤ s.size) : bts (s.extract 0 n) = (bts s).take n := by
  unfold bts
  rw [← List.map_take]
  congr 1
  simp [ByteArray.data_extract]
theorem bts_app (s t : ByteArray) : bts (s ++ t) = bts s ++ bts t := by
  unfold bts
  rw [show (s ++ t).data.toList = s.data.toList ++ t.data.toList by simp [ByteArray.data_append], List.map_append]
theorem bts_inj {s t : ByteArray} (h : bts s = bts t) : s = t := by rw [← ofB_bts s, h, ofB_bts]
theorem conv_sb (s : ByteArray) (hs : s.size ≤ 1000000000) (W : World) : ∃ c w', (convert 9 42 (.string s)).run Tryd.prog W = .ok (.slice (some ⟨W.heap.size, 0, none⟩) s.size c) w' ∧ s.size ≤ c ∧ c ≤ 9223372036854775807 ∧ Below W.heap.size W w' ∧ Cells w' W.heap.size 0 (bts s) ∧ (∀ i, i < s.size → w'.frozen? ⟨W.heap.size, i, none⟩ = false) := by
  have hge := grownCap_ge W s.size 0 5
  have hmx := grownCap_le_maxLen W s.size 0 5 (by unfold maxLen; omega)
  unfold maxLen at hmx
  refine ⟨_, _, run_bytes_of_string W 9 42 5 s Tryd.underlying9 Tryd.underlying42 Tryd.underlying5, hge, by omega, ?_, ?_, ?_⟩
  · exact (Below.drew (Below.refl _ _)).alloc (Nat.le_refl _) _
  · generalize grownCap W s.size 0 5 = c at *
    intro i hi
    rw [bts_len] at hi
    have hh : ((W.drew.alloc (.cells (bytesRow s c) 5 ((bytesRow s c).size, (bytesRow s c).size + 1))).heap)[W.heap.size]? = some (.cells (bytesRow s c) 5 ((bytesRow s c).size, (bytesRow s c).size + 1)) := by
      show (W.heap.push _)[W.heap.size]? = _
      simp
    unfold World.cell?
    simp only [hh, Nat.zero_add]
    rw [bts_get s i hi]
    unfold bytesRow
    rw [Array.getElem?_append_left (by rw [Array.size_map]; exact hi), Array.getElem?_map]
    have h2 : i < s.data.size := hi
    rw [Array.getElem?_eq_getElem h2]
    rfl
  · generalize grownCap W s.size 0 5 = c at *
    intro i hi
    have hh : ((W.drew.alloc (.cells (bytesRow s c) 5 ((bytesRow s c).size, (bytesRow s c).size + 1))).heap)[W.heap.size]? = some (.cells (bytesRow s c) 5 ((bytesRow s c).size, (bytesRow s c).size + 1)) := by
      show (W.heap.push _)[W.heap.size]? = _
      simp
    unfold World.frozen?
    simp only [hh]
    have : s.size ≤ (bytesRow s c).size := by unfold bytesRow; rw [Array.size_append, Array.size_map]; exact Nat.le_add_right _ _
    simp
    omega
theorem cells_set {w : World} {b : Nat} {l : List Nat} (h : Cells w b 0 l) (n z : Nat) (hn : n < l.length) : Cells (w.setCell ⟨b, n, none⟩ (.int .u8 (z : Int))) b 0 (l.set n z) := by
  intro i hi
  rw [List.length_set] at hi
  have h1 := h i hi
  rw [Nat.zero_add] at h1 ⊢
  by_cases e : i = n
  · subst e
    rw [World.cell?_setCell_same _ _ _ h1]
    congr 2
    rw [List.getD_eq_getElem?_getD, List.getElem?_set, if_pos rfl, if_pos hi]
    rfl
  · rw [World.cell?_setCell_other _ _ _ _ (by intro h; injection h with h1 h2; exact e h2.symm), h1]
    congr 3
    rw [List.getD_eq_getElem?_getD, List.getD_eq_getElem?_getD, List.getElem?_set, if_neg (by omega)]
theorem abv_set (L : List Nat) (n : Nat) (h : n < L.length) : (L.take (n + 1)).set n (L.getD n 0 + 1) = abvL L (n + 1) := by
  unfold abvL
  rw [Nat.add_sub_cancel, List.take_add_one, List.getElem?_eq_getElem h]
  rw [List.set_append_right _ _ (by simp; omega)]
  simp [List.length_take, Nat.min_eq_left (Nat.le_of_lt h), List.getD_eq_getElem?_getD, List.getElem?_eq_getElem h]
set_option maxRecDepth 8000 in
set_option maxHeartbeats 1000000 in
theorem above_any (s : ByteArray) (hs : s.size ≤ 1000000000) (W : World) :
    Calls Tryd.prog 11 #[.string s] W fun e w' => ∃ n, Hid (Abv (bts s) n) ∧ ((n = 0 ∧ e = .returned (.tuple #[.string em, .bool false])) ∨ (0 < n ∧ e = .returned (.tuple #[.string (ofB (abvL (bts s) n)), .bool true]))) ∧ Below W.heap.size W w' := by
  go_enter Tryd.func11, Tryd.ntmps11
  go_wp2
  go_loop [4] (fun i => ∃ n : Nat, n ≤ s.size ∧ i = .int .i64 (n : Int) ∧ Hid (∀ j, n ≤ j → j < s.size → (bts s).getD j 0 = 255)) (fun i => (intOf i).toNat)
  case atStart => exact ⟨s.size, Nat.le_refl _, rfl, fun j h1 h2 => absurd h2 (by omega)⟩
  case round =>
    obtain ⟨n, hn, rfl, HF⟩ := hrel
    by_cases h0 : 0 < n
    · obtain ⟨n, rfl⟩ : ∃ k, n = k + 1 := ⟨n - 1, by omega⟩
      have hn' : n < s.size := by omega
      have hb := bts_get s n hn'
      have hx := (s[n]'hn').toNat_lt
      by_cases he : (s[n]'hn').toNat = 255
      · have hei : (((s[n]'hn').toNat : Int) == 255) = true := by rw [he]; rfl
        rw [he] at hb
        go_wp2
        go_round
        case rel =>
          refine ⟨n, by omega, by go_num, fun j h1 h2 => ?_⟩
          rcases Nat.lt_or_ge j (n + 1) with h | h
          · rw [show j = n by omega]; exact hb
          · exact HF.out j h h2
        case measure => simp [intOf]
      · have hei : (((s[n]'hn').toNat : Int) == 255) = false := beq_eq_false_iff_ne.2 (by omega)
        have hn0 : (((n : Int) + 1) == 0) = false := beq_eq_false_iff_ne.2 (by omega)
        have hsz : (s.extract 0 (n + 1)).size = n + 1 := by simp [ByteArray.size_extract]; omega
        obtain ⟨c, w1, hcv, hc1, hc2, hbl, hcl, hfz⟩ := conv_sb (s.extract 0 (n + 1)) (by omega) W
        rw [hsz] at hcv hc1 hfz
        rw [bts_take s (n + 1) (by omega)] at hcl
        have hfn := hfz n (by omega)
        have hln : ((bts s).take (n + 1)).length = n + 1 := by rw [List.length_take, bts_len]; omega
        have hcn : w1.cell? ⟨W.heap.size, n, none⟩ = some (.int .u8 (((s[n]'hn').toNat : Nat) : Int)) := by
          have := hcl n (by omega)
          rw [Nat.zero_add] at this
          rw [this]
          congr 3
          rw [← hb, List.getD_eq_getElem?_getD, List.getD_eq_getElem?_getD, List.getElem?_take, if_pos (by omega)]
        obtain ⟨x, hxe⟩ : ∃ x, x = (s[n]'hn').toNat := ⟨_, rfl⟩
        rw [← hxe] at hcn hx hei
        have hxx : x < 255 := by omega
        have HA : Hid (Abv (bts s) (n + 1)) := by
          refine ⟨by rw [bts_len]; omega, fun j h1 h2 => HF.out j h1 (by rw [bts_len] at h2; exact h2), fun _ => ?_⟩
          rw [Nat.add_sub_cancel, hb]
          exact he
        have hcs := cells_set hcl n (x + 1) (by omega)
        rw [show x + 1 = (bts s).getD n 0 + 1 by rw [hb, hxe], abv_set (bts s) n (by rw [bts_len]; omega), hb, ← hxe] at hcs
        have hoc : Oct (abvL (bts s) (n + 1)) := by
          intro y hy
          unfold abvL at hy
          rcases List.mem_append.1 hy with h | h
          · exact bts_oct s y (List.mem_of_mem_take h)
          · rw [Nat.add_sub_cancel, hb] at h
            simp at h
            omega
        have hal : (abvL (bts s) (n + 1)).length = n + 1 := by unfold abvL; simp [bts_len]; omega
        have hcv2 := conv_byt (c := c) (w := w1.setCell ⟨W.heap.size, n, none⟩ (.int .u8 ((x + 1 : Nat) : Int))) (a := some ⟨W.heap.size, 0, none⟩) (.inr ⟨_, _, rfl, hcs⟩) hoc (by simp)
        rw [hal] at hcv2
        have hcast : ((x + 1 : Nat) : Int) = (x : Int) + 1 := by omega
        rw [hcast] at hcv2
        have HB : Hid (Below W.heap.size W (w1.setCell ⟨W.heap.size, n, none⟩ (.int .u8 ((x : Int) + 1)))) := hbl.setCell (Nat.le_refl _) _
        have hsx : (((s[n]'hn').toNat : Nat) : Int) = (x : Int) := by rw [hxe]
        obtain ⟨R, HR⟩ : ∃ R, Hid (ofB (abvL (bts s) (n + 1)) = R) := ⟨_, rfl⟩
        rw [HR.out] at hcv2
        clear hcs hoc hal hcl hfz hb HF he hln hbl hcast
        go_wp2
        go_ret2
        exact ⟨n + 1, HA.out, .inr ⟨by omega, by rw [HR.out]; rfl⟩, HB.out⟩
    · obtain rfl : n = 0 := by omega
      go_wp2
      go_ret2
      exact ⟨0, ⟨by omega, fun j h1 h2 => HF.out j h1 (by rw [bts_len] at h2; exact h2), fun h => absurd h (by omega)⟩, .inl ⟨rfl, rfl⟩, Below.refl _ _⟩
end Go.Proofs.YtoggcabenjmnoaaDoor
