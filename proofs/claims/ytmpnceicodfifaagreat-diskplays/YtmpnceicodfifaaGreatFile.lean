/-
  The methods of a file, a name's test, a text's own copy.
-/
import Derived.Test.YtmpnceicodfifaaGreatNil
import Derived.Lib.Strings
import Derived.Lib.BufferWrite
import Derived.Lib.UnsafeStr
import Derived.Laws.MakeOwn
import Derived.Laws.Bits64b
namespace Go.Proofs.YtmpnceicodfifaaGreat
open Go.RowKit Go.Maps
set_option maxHeartbeats 1000000 in
theorem fsync_any (f n c k : Nat) (a : Option Addr) (w : World) (h0 : w.cell? ⟨f, 0, none⟩ = some (.slice a n c)) (h1 : w.cell? ⟨f, 1, none⟩ = some (.int .u32 (k : Int))) (hz : w.frozen? ⟨f, 1, none⟩ = false) (hn : n < 4294967296) :
    Calls Tryz.prog 59 #[.pointer (some ⟨f, 0, none⟩)] w fun e w' => e = .returned (.tuple #[]) ∧ w' = w.setCell ⟨f, 1, none⟩ (.int .u32 (n : Int)) := by
  have hw : IntKind.u32.wrap (n : Int) = (n : Int) := by simp [IntKind.wrap_u32]; omega
  go_enter Tryz.func59, Tryz.ntmps59
  go_wp2
  first | go_ret | go_end0
  exact ⟨rfl, rfl⟩
set_option maxHeartbeats 1000000 in
theorem fcut_any (f n c k m : Nat) (a : Option Addr) (w : World) (h0 : w.cell? ⟨f, 0, none⟩ = some (.slice a n c)) (h1 : w.cell? ⟨f, 1, none⟩ = some (.int .u32 (k : Int))) (z0 : w.frozen? ⟨f, 0, none⟩ = false) (hz : w.frozen? ⟨f, 1, none⟩ = false)
    (hn : m ≤ n) (hc : n ≤ c) (h32 : m < 4294967296) :
    Calls Tryz.prog 78 #[.pointer (some ⟨f, 0, none⟩), .int .i64 (m : Int)] w fun e w' => e = .returned (.tuple #[]) ∧ w' = (w.setCell ⟨f, 0, none⟩ (.slice a m c)).setCell ⟨f, 1, none⟩ (.int .u32 ((min k m : Nat) : Int)) := by
  have hw : IntKind.u32.wrap (m : Int) = (m : Int) := by simp [IntKind.wrap_u32]; omega
  go_enter Tryz.func78, Tryz.ntmps78
  go_wp2
  · go_end0
    rw [Nat.min_eq_right (by omega)]
    exact ⟨rfl, rfl⟩
  · go_end0
    rw [Nat.min_eq_left (by omega)]
    exact ⟨rfl, rfl⟩
theorem or32 (n k : Nat) (hn : n < 4294967296) (hk : k < 4294967296) : bits .or .u64 ((n : Int) * 4294967296) (k : Int) = ((n * 4294967296 + k : Nat) : Int) := by
  have h := bits_or_u64_nat (n * 4294967296) k (by omega) (by omega)
  have e : n * 4294967296 ||| k = n * 4294967296 + k := by
    have := Nat.shiftLeft_add_eq_or_of_lt (i := 32) (b := k) (by omega) n
    rw [Nat.shiftLeft_eq] at this
    simpa using this.symm
  rw [e] at h
  simpa using h
set_option maxHeartbeats 1000000 in
theorem told_any (f n c k : Nat) (a : Option Addr) (w : World) (h0 : w.cell? ⟨f, 0, none⟩ = some (.slice a n c)) (h1 : w.cell? ⟨f, 1, none⟩ = some (.int .u32 (k : Int))) (hn : n < 4294967296) (hk : k < 4294967296) :
    Calls Tryz.prog 79 #[.pointer (some ⟨f, 0, none⟩)] w fun e w' => e = .returned (.int .u64 ((n * 4294967296 + k : Nat) : Int)) ∧ ∃ q, w' = w.drewN q := by
  have ho := or32 n k hn hk
  obtain ⟨t, ht⟩ : ∃ t : Nat, t = n * 4294967296 + k := ⟨_, rfl⟩
  rw [← ht] at ho ⊢
  clear ht
  go_enter Tryz.func79, Tryz.ntmps79
  go_wp2
  go_quiet (fail)
  go_wp2
  go_ret
  exact ⟨rfl, _, rfl⟩
set_option maxHeartbeats 1000000 in
theorem spared_any (f n c k d : Nat) (a : Option Addr) (w : World) (h0 : w.cell? ⟨f, 0, none⟩ = some (.slice a n c)) (h1 : w.cell? ⟨f, 1, none⟩ = some (.int .u32 (k : Int))) (hn : n < 4294967296) (hk : k ≤ n) :
    Calls Tryz.prog 58 #[.pointer (some ⟨f, 0, none⟩), .int .i64 (d : Int)] w fun e w' => e = .returned (.int .i64 ((k + d % (n - k + 1) : Nat) : Int)) ∧ ∃ q, w' = w.drewN q := by
  obtain ⟨t, ht⟩ : ∃ t : Nat, t = n * 4294967296 + k := ⟨_, rfl⟩
  have HT : Hid (Calls Tryz.prog 79 #[.pointer (some ⟨f, 0, none⟩)] w fun e w' => e = .returned (.int .u64 (t : Int)) ∧ ∃ q, w' = w.drewN q) := by rw [ht]; exact told_any f n c k a w h0 h1 hn (by omega)
  have e1 : (t : Int) / 4294967296 = (n : Int) := by omega
  have e2 : IntKind.u32.wrap (t : Int) = (k : Int) := by simp [IntKind.wrap_u32]; omega
  have e3 : Int.tmod (d : Int) ((n : Int) - (k : Int) + 1) = ((d % (n - k + 1) : Nat) : Int) := by
    have : ((n : Int) - (k : Int) + 1) = ((n - k + 1 : Nat) : Int) := by omega
    rw [this, Int.ofNat_tmod]
  have hr := Nat.mod_lt d (show 0 < n - k + 1 by omega)
  obtain ⟨r, hr0⟩ : ∃ r : Nat, r = d % (n - k + 1) := ⟨_, rfl⟩
  rw [← hr0] at e3 hr ⊢
  have hne : ¬ ((n : Int) - (k : Int) + 1 = 0) := by omega
  have ht64 : (t : Int) < 18446744073709551616 := by omega
  clear hr0 ht
  go_enter Tryz.func58, Tryz.ntmps58
  go_wp2_with (go_at_call 79; refine HT.out.mono ?_; rintro e w' ⟨rfl, q, rfl⟩)
  go_ret
  exact ⟨by simp, _, rfl⟩
theorem noname_any (s : ByteArray) (w : World) : Calls Tryz.prog 54 #[.string s] w fun e w' => e = .returned (.bool (decide (s.size < 1) || decide (64 < s.size))) ∧ w' = w := by
  by_cases h1 : s.size < 1
  · go_enter Tryz.func54, Tryz.ntmps54
    go_wp2
    go_ret
    exact ⟨by simp, rfl⟩
  · go_enter Tryz.func54, Tryz.ntmps54
    go_wp2
    go_ret
    refine ⟨?_, rfl⟩
    have e : decide (s.size < 1) = false := by simpa using h1
    rw [e]
    have e1 : decide ((s.size : Int) < 1) = false := by simp; omega
    by_cases h2 : 64 < s.size
    · simp [e1, h2]; omega
    · simp [e1, h2]; omega
set_option maxHeartbeats 2000000 in
set_option maxRecDepth 100000 in
theorem slclone_any (s : ByteArray) (hs : s.size ≤ maxLen) (w : World) (h48 : s.size ≤ 281474976710656) : Calls Tryz.prog 91 #[.string s] w fun e w' => e = .returned (.string s) ∧ Below w.heap.size w w' := by
  by_cases h0 : s.size = 0
  · obtain rfl : s = ⟨#[]⟩ := ByteArray.ext (Array.eq_empty_of_size_eq_zero h0)
    go_enter Tryz.func91, Tryz.ntmps91
    go_wp2
    go_ret
    exact ⟨rfl, Below.refl _ _⟩
  · obtain ⟨i0, hi, hz0, hz1, hz2⟩ := info_parts Tryz.info5
    have hinfo : (Tryz.prog.info? 5).map (·.size) = some 1 := by rw [hi]; simp [hz1]
    have hco : Tryz.prog.cellsOf 5 = 1 := by kernel_rfl
    obtain ⟨M, hM⟩ : ∃ M, M = madeCells (Value.int .u8 0).cells (((s.size : Nat) : Int).toNat * i0.size) := ⟨_, rfl⟩
    have hMs : M.size = s.size := by rw [hM, size_madeCells, hz1]; simp
    have hmk : ∀ W : World, (Instr.makeSlice 32 (.int .i64 (s.size : Int)) (.int .i64 (s.size : Int))).run Tryz.prog W = .ok (.slice (some ⟨W.heap.size, 0, none⟩) s.size s.size) (W.alloc (.cells M 5)) := fun W => by
      have h := run_make (P := Tryz.prog) W 32 5 i0 (.int .u8 0) Tryz.underlying32 hi hz0 .i64 .i64 (s.size : Int) (s.size : Int) (by omega) (by omega) (by rw [hz2]; omega) (by omega)
      rw [← hM] at h
      simpa using h
    clear hM
    have hcp := Lib.run_copy_row_string (P := Tryz.prog) (w.alloc (.cells M 5)) 32 9 3 5 w.heap.size 0 s.size s.size s M 5 Tryz.underlying32 hinfo (heap_alloc_new w _) (Nat.le_refl _) (by omega)
    obtain ⟨Y, hY⟩ : ∃ Y, Y = (M.toList.take 0 ++ Lib.byteCells s.data.toList ++ M.toList.drop (0 + s.size)).toArray := ⟨_, rfl⟩
    rw [← hY] at hcp
    have hYl : Y.toList = Lib.byteCells s.data.toList := by
      rw [hY, List.toList_toArray, List.take_zero, List.nil_append, List.drop_of_length_le (by rw [Array.length_toList]; omega), List.append_nil]
    have hYs : Y.size = s.size := by rw [← Array.length_toList, hYl, Lib.byteCells_length, ← Lib.size_eq]
    have hgY : ((w.alloc (.cells M 5)).setRow w.heap.size Y).heap[w.heap.size]? = some (.cells Y 5 (0, 0)) := setRow_heap _ _ M _ 5 (0, 0) (heap_alloc_new w _)
    have hne : s.data.toList ≠ [] := fun e => h0 (by rw [Lib.size_eq, e]; rfl)
    have hUS := Lib.run_unsafeString_row (P := Tryz.prog) ((w.alloc (.cells M 5)).setRow w.heap.size Y) 120 3 9 5 Tryz.underlying120 hco w.heap.size Y.size (by unfold World.shape?; rw [hgY]) s.data.toList hne (by rw [← Lib.size_eq]; omega) (by rw [← Lib.size_eq]; unfold maxLen at hs; omega)
      (fun j x hx => Lib.cells_of_row hgY Y.size j _ (by rw [List.take_of_length_le (by rw [Array.length_toList]; exact Nat.le_refl _), hYl]; simp [Lib.byteCells, hx]))
    rw [← Lib.size_eq] at hUS
    clear hY hs
    go_enter Tryz.func91, Tryz.ntmps91
    go_wp2
    go_ret
    have hb1 : Below w.heap.size w (w.alloc (.cells M 5)) := (Below.refl _ w).alloc (Nat.le_refl _) _
    have hb2 : Below w.heap.size (w.alloc (.cells M 5)) ((w.alloc (.cells M 5)).setRow w.heap.size Y) := ⟨rfl, rfl, rfl, by simp, fun k hk => setRow_other _ _ _ _ (by omega)⟩
    exact ⟨rfl, Lib.below_freeze (hb1.trans hb2) (p := ⟨w.heap.size, 0, none⟩) (Nat.le_refl _) _⟩
theorem clone_any (s : ByteArray) (hs : s.size ≤ 281474976710656) (w : World) : Calls Tryz.prog 77 #[.string s] w fun e w' => e = .returned (.string s) ∧ Below w.heap.size w w' := by
  go_enter Tryz.func77, Tryz.ntmps77
  go_wp2_with (go_at_call 91; refine (slclone_any s (by unfold maxLen; omega) _ hs).mono ?_; rintro e w' ⟨rfl, hb⟩)
  go_ret
  exact ⟨rfl, hb⟩
end Go.Proofs.YtmpnceicodfifaaGreat
