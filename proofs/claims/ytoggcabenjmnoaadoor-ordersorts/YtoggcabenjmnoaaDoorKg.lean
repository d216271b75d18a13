/-
  The contracts of octet.highFirst, Big, Short and of the document's own Big, Short: each makes the bytes of a number, the highest first.
-/
import Derived.Test.YtoggcabenjmnoaaDoorOap
import Derived.Test.YtoggcabenjmnoaaDoorKa
import Derived.Laws.MakeOwn
namespace Go.Proofs.YtoggcabenjmnoaaDoor
open Go.RowKit Math
theorem vals_set (l : List Nat) (j z : Nat) : vals (l.set j z) = (vals l).set j (.int .u8 (z : Int)) := by simp [vals, List.map_set]
theorem own_put {w : World} {base g c n : Nat} {l : List Nat} (hl : l.length = n) (h : Own w base (.slice (some ⟨g, 0, none⟩) n c) l) (j z : Nat) :
    Own (w.setCell ⟨g, j, none⟩ (.int .u8 (z : Int))) base (.slice (some ⟨g, 0, none⟩) n c) (l.set j z) := by
  subst hl
  have o2 := (World.ownsRow.stored h j (.int .u8 (z : Int))).1
  rw [← vals_set l _ z] at o2
  unfold Own
  rw [List.length_set]
  exact o2
theorem hfk_set (v n k : Nat) : (hfk v n k).set k (v / 256 ^ (n - 1 - k) % 256) = hfk v n (k + 1) := by
  apply List.ext_getElem
  · simp [hfk]
  · intro i h1 h2
    rw [List.getElem_set]
    simp only [hfk, List.getElem_map, List.getElem_range]
    by_cases hi : k = i
    · subst hi; simp
    · rw [if_neg hi]
      by_cases h3 : i < k
      · rw [if_pos h3, if_pos (by omega)]
      · rw [if_neg h3, if_neg (by omega)]
theorem hfk_zero (v n : Nat) : (madeCells #[Value.int .u8 0] n).toList = vals (hfk v n 0) := by
  rw [toList_madeCells_one]
  apply List.ext_getElem
  · simp [hfk, vals]
  · intro i h1 h2
    simp [hfk, vals]
theorem hf_byte (v m : Nat) : (v : Int) / 2 ^ (8 * m) % 256 = ((v / 256 ^ m % 256 : Nat) : Int) := by
  have hp : ((2 : Int) ^ (8 * m)) = ((256 ^ m : Nat) : Int) := by
    rw [show (256 : Nat) = 2 ^ 8 by decide, ← Nat.pow_mul]; simp
  rw [hp]
  generalize 256 ^ m = p
  rw [← Int.natCast_ediv]
  omega
set_option maxRecDepth 8000 in
set_option maxHeartbeats 400000 in
theorem hf_any (v n : Nat) (_hv : v < 18446744073709551616) (hn : n ≤ 8) (w : World) :
    Calls Tryd.prog 35 #[.int .u64 v, .int .i64 n] w fun e w' => ∃ g, e = .returned (.slice (some ⟨g, 0, none⟩) n n) ∧ Own w' w.heap.size (.slice (some ⟨g, 0, none⟩) n n) (hfk v n n) ∧ Below w.heap.size w w' := by
  obtain ⟨i0, hi, hz0, hz1, hz2⟩ := info_parts Tryd.info5
  go_enter Tryd.func35, Tryd.ntmps35
  go_wp2_with (at_make; go_must (refine wpList_make_full _ rfl _ _ 42 rfl w.heap.size 5 i0 (.int .u8 0) 1 Tryd.underlying42 hi hz0 hz1 _ _ _ _ n rfl rfl rfl rfl (by rw [hz2]; omega) (by unfold maxLen; omega) (Nat.le_refl _) ?_))
  intro w1 o1 g1
  have b1 : Below w.heap.size w w1 := (Below.refl _ _).grown g1 (Nat.le_refl _) (by simp)
  have o2 : Own w1 w.heap.size (.slice (some ⟨w.heap.size, 0, none⟩) n n) (hfk v n 0) := by
    unfold Own; rw [hfk_length, ← hfk_zero]; exact o1
  clear o1 g1 hi hz0 hz1 hz2
  go_wp2
  go_loopw [11] (fun i wr => ∃ k : Nat, k ≤ n ∧ i = .int .i64 k ∧ Own wr w.heap.size (.slice (some ⟨w.heap.size, 0, none⟩) n n) (hfk v n k) ∧ Below w.heap.size w wr) (fun i _ => n - (intOf i).toNat)
  case atStart => exact ⟨0, by omega, rfl, o2, b1⟩
  case round =>
    obtain ⟨k, hk, rfl, o3, b3⟩ := hrel
    clear o2 b1
    by_cases hlt : k < n
    · have hce := World.ownsRow.cellAt (by unfold Own at o3; rw [hfk_length] at o3; exact o3) k (by omega)
      rw [vals_get _ k (by rw [hfk_length]; exact hlt)] at hce
      have hfr : wr.frozen? ⟨w.heap.size, k, none⟩ = false := World.ownsRow.frozenAt (by unfold Own at o3; rw [hfk_length] at o3; exact o3) k
      generalize (hfk v n k).getD k 0 = z0 at hce
      have o4 := own_put (hfk_length v n k) o3 k (v / 256 ^ (n - 1 - k) % 256)
      rw [hfk_set v n k] at o4
      have HB := hf_byte v (n - 1 - k)
      have hB := b3.setCell (p := ⟨w.heap.size, k, none⟩) (Nat.le_refl _) (.int .u8 ((v / 256 ^ (n - 1 - k) % 256 : Nat) : Int))
      generalize v / 256 ^ (n - 1 - k) % 256 = z at HB o4 hB
      go_wp2
      go_roundw
      case rel => exact ⟨k + 1, by omega, by go_num, o4, hB⟩
      case measure => simp [intOf]; omega
    · have hkn : k = n := by omega
      subst hkn
      go_wp2
      go_ret
      exact ⟨_, rfl, o3, b3⟩
/-- The lowest n bytes of a number, the highest first. -/
theorem hf_oct (v n : Nat) : Oct (hf v n) := by
  intro x hx
  unfold hf hfk at hx
  obtain ⟨i, _, rfl⟩ := List.mem_map.1 hx
  split <;> omega
theorem hf_four (v : Nat) : hf v 4 = [v / 16777216 % 256, v / 65536 % 256, v / 256 % 256, v % 256] := by
  simp [hf, hfk, List.range, List.range.loop]
theorem hf_eight (v : Nat) : hf v 8 = [v / 72057594037927936 % 256, v / 281474976710656 % 256, v / 1099511627776 % 256, v / 4294967296 % 256, v / 16777216 % 256, v / 65536 % 256, v / 256 % 256, v % 256] := by
  simp [hf, hfk, List.range, List.range.loop]
theorem hf_join (v : Nat) : hf (v / 4294967296) 4 ++ hf (v % 4294967296) 4 = hf v 8 := by
  rw [hf_four, hf_four, hf_eight]
  simp only [List.cons_append, List.nil_append, List.cons.injEq, and_true]
  have hm : ∀ m p : Nat, p = m * 256 → v % 4294967296 / m % 256 = v / m % 256 ∨ ¬ (4294967296 % p = 0 ∧ 0 < m) := by
    intro m p hp
    by_cases hd : 4294967296 % p = 0 ∧ 0 < m
    · left
      obtain ⟨d, hd'⟩ := Nat.dvd_of_mod_eq_zero hd.1
      rw [hd', hp, Nat.mul_assoc, Nat.mod_mul_right_div_self, Nat.mod_mul_right_mod]
    · exact .inr hd
  refine ⟨by rw [Nat.div_div_eq_div_mul], by rw [Nat.div_div_eq_div_mul], by rw [Nat.div_div_eq_div_mul], trivial, ?_, ?_, ?_, ?_⟩
  · exact (hm 16777216 4294967296 (by decide)).resolve_right (by decide)
  · exact (hm 65536 16777216 (by decide)).resolve_right (by decide)
  · exact (hm 256 65536 (by decide)).resolve_right (by decide)
  · omega
set_option maxRecDepth 8000 in
set_option maxHeartbeats 400000 in
theorem big_any (v : Nat) (hv : v < 18446744073709551616) (w : World) :
    Calls Tryd.prog 23 #[.int .u64 v] w fun e w' => ∃ g, e = .returned (.slice (some ⟨g, 0, none⟩) 8 8) ∧ Own w' w.heap.size (.slice (some ⟨g, 0, none⟩) 8 8) (hf v 8) ∧ Below w.heap.size w w' := by
  have hH : Hid (∀ W : World, Calls Tryd.prog 35 #[.int .u64 v, .int .i64 8] W fun e w' => ∃ g, e = .returned (.slice (some ⟨g, 0, none⟩) 8 8) ∧ Own w' W.heap.size (.slice (some ⟨g, 0, none⟩) 8 8) (hf v 8) ∧ Below W.heap.size W w') := fun W => hf_any v 8 hv (by decide) W
  go_enter Tryd.func23, Tryd.ntmps23
  go_wp2_with fail
  refine (hH.out w).mono ?_
  rintro e w1 ⟨g, rfl, o1, b1⟩
  go_wp2
  go_ret
  exact ⟨g, rfl, o1, b1⟩
set_option maxRecDepth 8000 in
set_option maxHeartbeats 400000 in
theorem shortr_any (v : Nat) (hv : v < 4294967296) (w : World) :
    Calls Tryd.prog 44 #[.int .u32 v] w fun e w' => e = .returned (.slice (some ⟨w.heap.size, 0, none⟩) 4 4) ∧ Own w' w.heap.size (.slice (some ⟨w.heap.size, 0, none⟩) 4 4) (hf v 4) ∧ Below w.heap.size w w' := by
  have HO : Hid (Own (w.alloc (.cells #[.int .u8 ((v : Int) / 16777216), .int .u8 ((v : Int) / 65536 % 256), .int .u8 ((v : Int) / 256 % 256), .int .u8 ((v : Int) % 256)] 5)) w.heap.size (.slice (some ⟨w.heap.size, 0, none⟩) 4 4) (hf v 4)) := by
    have h := World.ownsRow_lit (base := w.heap.size) (e := 5) (size := 1) w #[.int .u8 ((v : Int) / 16777216), .int .u8 ((v : Int) / 65536 % 256), .int .u8 ((v : Int) / 256 % 256), .int .u8 ((v : Int) % 256)] 4 (Nat.le_refl _) (by decide) rfl
    have e : vals (hf v 4) = [.int .u8 ((v : Int) / 16777216), .int .u8 ((v : Int) / 65536 % 256), .int .u8 ((v : Int) / 256 % 256), .int .u8 ((v : Int) % 256)] := by
      rw [hf_four]
      simp only [vals, List.map_cons, List.map_nil, List.cons.injEq, Value.int.injEq, true_and, and_true]
      omega
    unfold Hid Own
    rw [e, hf_length]
    exact h
  go_enter Tryd.func44, Tryd.ntmps44
  go_wp2
  go_ret
  exact ⟨rfl, HO.out, (Below.refl _ _).alloc (Nat.le_refl _) _⟩
set_option maxRecDepth 8000 in
set_option maxHeartbeats 400000 in
theorem bigr_any (v : Nat) (hv : v < 18446744073709551616) (w : World) :
    Calls Tryd.prog 38 #[.int .u64 v] w fun e w' => ∃ g c, e = .returned (.slice (some ⟨g, 0, none⟩) 8 c) ∧ Own w' w.heap.size (.slice (some ⟨g, 0, none⟩) 8 c) (hf v 8) ∧ Below w.heap.size w w' := by
  have hH : Hid (∀ W : World, Calls Tryd.prog 44 #[.int .u32 ((v : Int) / 4294967296)] W fun e w' => e = .returned (.slice (some ⟨W.heap.size, 0, none⟩) 4 4) ∧ Own w' W.heap.size (.slice (some ⟨W.heap.size, 0, none⟩) 4 4) (hf (v / 4294967296) 4) ∧ Below W.heap.size W w') := fun W => by
    rw [show (v : Int) / 4294967296 = ((v / 4294967296 : Nat) : Int) by omega]
    exact shortr_any _ (by omega) W
  have hL : Hid (∀ W : World, Calls Tryd.prog 44 #[.int .u32 ((v : Int) % 4294967296)] W fun e w' => e = .returned (.slice (some ⟨W.heap.size, 0, none⟩) 4 4) ∧ Own w' W.heap.size (.slice (some ⟨W.heap.size, 0, none⟩) 4 4) (hf (v % 4294967296) 4) ∧ Below W.heap.size W w') := fun W => by
    rw [show (v : Int) % 4294967296 = ((v % 4294967296 : Nat) : Int) by omega]
    exact shortr_any _ (by omega) W
  have HJ : Hid _ := hf_join v
  have hl1 := hf_length (v / 4294967296) 4
  have hl2 := hf_length (v % 4294967296) 4
  generalize hf (v / 4294967296) 4 = A, hf (v % 4294967296) 4 = B at hH hL HJ hl1 hl2
  go_enter Tryd.func38, Tryd.ntmps38
  go_wp2_with fail
  refine (hH.out w).mono ?_
  rintro e w1 ⟨rfl, o1, b1⟩
  have s1 := b1.size
  go_wp2_with fail
  refine (hL.out w1).mono ?_
  rintro e w2 ⟨rfl, o2, b2⟩
  clear hH hL
  have hs1 := (World.ownsRow.lt o1 _ rfl).2
  have o1' : Own w2 w.heap.size (.slice (some ⟨w.heap.size, 0, none⟩) 4 4) A := World.ownsRow.kept (row := none) o1 ⟨b2.os, b2.tape, b2.output, b2.size, fun k hk _ => b2.block k hk⟩ (by simp [Value.ownBlock])
  obtain ⟨g2, c2, hv2, _, _, _, _, hcell2⟩ := o2.form (by omega)
  have hsrc : Byt w2 (some ⟨w1.heap.size, 0, none⟩) B := by
    simp only [Value.slice.injEq, Option.some.injEq, Addr.mk.injEq, and_true] at hv2
    obtain ⟨rfl, _, _⟩ := hv2
    exact .inr ⟨_, _, rfl, hcell2⟩
  have b12 := b1.trans (b2.mono s1)
  clear o1 o2 hcell2 hv2
  have hl1' : A.length = 4 := hl1
  go_wp2_with (at_builtin; go_must (refine app_bytes rfl (.tmp 6) (.tmp 9) rfl w.heap.size _ A rfl o1' _ _ _ B hl2.symm rfl hsrc (by simp) (by omega) (by omega) ?_))
  intro v3 w3 o3 g3
  have b3 := below_app b12 b12.size o1' g3
  rw [HJ.out] at o3
  obtain ⟨g, c, rfl, _⟩ := o3.form (by rw [hf_length]; decide)
  rw [hf_length] at *
  clear g3 o1' hsrc
  go_wp2
  go_ret
  exact ⟨g, c, rfl, o3, b3⟩
end Go.Proofs.YtoggcabenjmnoaaDoor
