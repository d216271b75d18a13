/-
  The program's lex: what it calls of the library.
-/
import Derived.Test.YtpfiejmhnkcjbaaGreatDoorELyb
import Derived.Test.YtpfiejmhnkcjbaaGreatDoorEG9x
import Derived.Lib.Walk
import Derived.Lib.BufferWrite
import Derived.Lib.UnsafeStr
import Derived.Lib.Strings
import Derived.Laws.MakeOwn
import Derived.Laws.CopyOwn
namespace Go.Proofs.YtpfiejmhnkcjbaaGreatDoor
open Go.RowKit Lx
set_option linter.unusedVariables false
set_option linter.unusedSimpArgs false
theorem pre_map : ∀ (p s : List UInt8), p.isPrefixOf s = (p.map UInt8.toNat).isPrefixOf (s.map UInt8.toNat)
  | [], _ => by simp
  | x :: p, [] => rfl
  | x :: p, y :: s => by
    simp only [List.map_cons, List.isPrefixOf]
    rw [← pre_map p s]
    congr 1
    rw [Bool.eq_iff_iff]
    simp [← UInt8.toNat_inj]
theorem hasp_any (s p : ByteArray) (w : World) : Calls Tryz.prog 31 #[.string s, .string p] w fun e w' => e = .returned (.bool ((bts p).isPrefixOf (bts s))) ∧ w' = w := by
  have K : Calls Tryz.prog 31 _ _ _ := Any.strings_HasPrefix Tryz.lays99 s p w
  refine K.mono ?_
  rintro e w' ⟨rfl, rfl⟩
  refine ⟨?_, rfl⟩
  unfold Lib.hasPrefix bts
  rw [pre_map]
theorem ix_tw (c : UInt8) : ∀ l : List UInt8, Lib.indexByte l c = if ((l.map UInt8.toNat).takeWhile (· != c.toNat)).length < l.length then ((((l.map UInt8.toNat).takeWhile (· != c.toNat)).length : Nat) : Int) else -1
  | [] => rfl
  | x :: l => by
    by_cases hx : x = c
    · subst hx
      simp [Lib.indexByte]
    · have hx' : (x == c) = false := by simpa using hx
      have hx2 : (x.toNat != c.toNat) = true := by simpa [← UInt8.toNat_inj] using hx
      rw [Lib.indexByte, hx', List.map_cons, List.takeWhile_cons, if_pos hx2, ix_tw c l]
      simp only [Bool.false_eq_true, if_false, List.length_cons, Nat.add_lt_add_iff_right]
      by_cases hl : ((l.map UInt8.toNat).takeWhile (· != c.toNat)).length < l.length
      · simp only [hl, if_true]
        rw [if_neg]
        · omega
        · simp only [beq_iff_eq]; omega
      · simp only [hl, if_false]
        rfl
theorem ixb_any (s : ByteArray) (c : Nat) (hc : c < 256) (w : World) : Calls Tryz.prog 32 #[.string s, .int .u8 (c : Int)] w fun e w' => e = .returned (.int .i64 (if ((bts s).takeWhile (· != c)).length < s.size then ((((bts s).takeWhile (· != c)).length : Nat) : Int) else -1)) ∧ w' = w := by
  have K : Calls Tryz.prog 32 _ _ _ := Any.strings_IndexByte Tryz.lays137 s (c : Int) w
  refine K.mono ?_
  rintro e w' ⟨rfl, rfl⟩
  refine ⟨?_, rfl⟩
  have h := ix_tw ((c : Int).toNat.toUInt8) s.data.toList
  have e1 : ((c : Int).toNat.toUInt8).toNat = c := by
    rw [Int.toNat_natCast]
    show c % 256 = c
    omega
  rw [e1] at h
  rw [h]
  have e2 : s.data.toList.length = s.size := Array.length_toList ..
  rw [e2]
  rfl
theorem lower_nat (x : UInt8) : (Lib.lowerB x).toNat = if 65 ≤ x.toNat ∧ x.toNat ≤ 90 then x.toNat + 32 else x.toNat := by
  have h : ∀ n : Fin 256, (Lib.lowerB (UInt8.ofNat n.val)).toNat = if 65 ≤ n.val ∧ n.val ≤ 90 then n.val + 32 else n.val := by decide +kernel
  have := h ⟨x.toNat, x.toNat_lt⟩
  rw [UInt8.ofNat_toNat] at this
  exact this
theorem tlow_any (s : ByteArray) (hs : s.size ≤ 140737488355328) (h : ∀ x ∈ bts s, x < 128) (w : World) : Calls Tryz.prog 48 #[.string s] w fun e w' => e = .returned (.string (ofB (sml (bts s)))) ∧ Below w.heap.size w w' := by
  have K : Calls Tryz.prog 48 _ _ _ := Any.strings_ToLower_ascii Tryz.lays159 Tryz.Builder_Extra_159 s w hs (fun j b hj => h _ (by unfold bts; exact List.mem_map.2 ⟨b, List.mem_of_getElem? hj, rfl⟩))
  refine K.mono ?_
  rintro e w' ⟨rfl, hb⟩
  refine ⟨?_, hb⟩
  congr 2
  rw [← ofB_bts (⟨(Lib.toLowerA s.data.toList).toArray⟩ : ByteArray)]
  congr 1
  unfold bts sml Lib.toLowerA
  simp only [List.map_map]
  refine List.map_congr_left fun x _ => ?_
  exact lower_nat x
set_option maxRecDepth 100000 in
theorem slclone_any (s : ByteArray) (hs : s.size ≤ maxLen) (w : World) (h48 : s.size ≤ 281474976710656) : Calls Tryz.prog 41 #[.string s] w fun e w' => e = .returned (.string s) ∧ Below w.heap.size w w' := by
  by_cases h0 : s.size = 0
  · obtain rfl : s = ⟨#[]⟩ := ByteArray.ext (Array.eq_empty_of_size_eq_zero h0)
    go_enter Tryz.func41, Tryz.ntmps41
    go_wp2
    go_ret
    exact ⟨rfl, Below.refl _ _⟩
  · obtain ⟨i0, hi, hz0, hz1, hz2⟩ := info_parts Tryz.info5
    have hinfo : (Tryz.prog.info? 5).map (·.size) = some 1 := by rw [hi]; simp [hz1]
    have hco : Tryz.prog.cellsOf 5 = 1 := by kernel_rfl
    obtain ⟨M, hM⟩ : ∃ M, M = madeCells (Value.int .u8 0).cells (((s.size : Nat) : Int).toNat * i0.size) := ⟨_, rfl⟩
    have hMs : M.size = s.size := by rw [hM, size_madeCells, hz1]; simp
    have hmk : ∀ W : World, (Instr.makeSlice 34 (.int .i64 (s.size : Int)) (.int .i64 (s.size : Int))).run Tryz.prog W = .ok (.slice (some ⟨W.heap.size, 0, none⟩) s.size s.size) (W.alloc (.cells M 5)) := fun W => by
      have h := run_make (P := Tryz.prog) W 34 5 i0 (.int .u8 0) Tryz.underlying34 hi hz0 .i64 .i64 (s.size : Int) (s.size : Int) (by omega) (by omega) (by rw [hz2]; omega) (by omega)
      rw [← hM] at h
      simpa using h
    clear hM
    have hcp := Lib.run_copy_row_string (P := Tryz.prog) (w.alloc (.cells M 5)) 34 9 3 5 w.heap.size 0 s.size s.size s M 5 Tryz.underlying34 hinfo (heap_alloc_new w _) (Nat.le_refl _) (by omega)
    obtain ⟨Y, hY⟩ : ∃ Y, Y = (M.toList.take 0 ++ Lib.byteCells s.data.toList ++ M.toList.drop (0 + s.size)).toArray := ⟨_, rfl⟩
    rw [← hY] at hcp
    have hYl : Y.toList = Lib.byteCells s.data.toList := by
      rw [hY, List.toList_toArray, List.take_zero, List.nil_append, List.drop_of_length_le (by rw [Array.length_toList]; omega), List.append_nil]
    have hYs : Y.size = s.size := by rw [← Array.length_toList, hYl, Lib.byteCells_length, ← Lib.size_eq]
    have hgY : ((w.alloc (.cells M 5)).setRow w.heap.size Y).heap[w.heap.size]? = some (.cells Y 5 (0, 0)) := setRow_heap _ _ M _ 5 (0, 0) (heap_alloc_new w _)
    have hne : s.data.toList ≠ [] := fun e => h0 (by rw [Lib.size_eq, e]; rfl)
    have hUS := Lib.run_unsafeString_row (P := Tryz.prog) ((w.alloc (.cells M 5)).setRow w.heap.size Y) 73 3 9 5 Tryz.underlying73 hco w.heap.size Y.size (by unfold World.shape?; rw [hgY]) s.data.toList hne (by rw [← Lib.size_eq]; omega) (by rw [← Lib.size_eq]; unfold maxLen at hs; omega)
      (fun j x hx => Lib.cells_of_row hgY Y.size j _ (by rw [List.take_of_length_le (by rw [Array.length_toList]; exact Nat.le_refl _), hYl]; simp [Lib.byteCells, hx]))
    rw [← Lib.size_eq] at hUS
    clear hY hs
    go_enter Tryz.func41, Tryz.ntmps41
    go_wp2
    go_ret
    have hb1 : Below w.heap.size w (w.alloc (.cells M 5)) := (Below.refl _ w).alloc (Nat.le_refl _) _
    have hb2 : Below w.heap.size (w.alloc (.cells M 5)) ((w.alloc (.cells M 5)).setRow w.heap.size Y) := ⟨rfl, rfl, rfl, by simp, fun k hk => setRow_other _ _ _ _ (by omega)⟩
    exact ⟨rfl, Lib.below_freeze (hb1.trans hb2) (p := ⟨w.heap.size, 0, none⟩) (Nat.le_refl _) _⟩
theorem sclone_any (s : ByteArray) (hs : s.size ≤ 281474976710656) (w : World) : Calls Tryz.prog 19 #[.string s] w fun e w' => e = .returned (.string s) ∧ Below w.heap.size w w' := by
  go_enter Tryz.func19, Tryz.ntmps19
  go_wp2_with (go_at_call 41; refine (slclone_any s (by unfold maxLen; omega) _ hs).mono ?_; rintro e w' ⟨rfl, hb⟩)
  go_ret
  exact ⟨rfl, hb⟩

end Go.Proofs.YtpfiejmhnkcjbaaGreatDoor
