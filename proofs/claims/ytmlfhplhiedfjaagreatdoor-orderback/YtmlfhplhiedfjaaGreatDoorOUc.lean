/-
  order's reader: until, text.
-/
import Derived.Test.YtmlfhplhiedfjaaGreatDoorOG14x
import Derived.Test.YtmlfhplhiedfjaaGreatDoorOG9x
import Derived.Lib.IndexMore
import Derived.Lib.Strings
import Derived.Lib.BufferWrite
import Derived.Lib.UnsafeStr
import Derived.Laws.MakeOwn
namespace Go.Proofs.YtmlfhplhiedfjaaGreatDoor
open Go.RowKit Math
set_option linter.unusedVariables false
set_option linter.unusedSimpArgs false
theorem pfx_map : ∀ (sub s : List UInt8), sub.isPrefixOf s = (sub.map UInt8.toNat).isPrefixOf (s.map UInt8.toNat)
  | [], _ => rfl
  | _ :: _, [] => rfl
  | a :: sub, b :: s => by
    have h : (a == b) = (a.toNat == b.toNat) := by
      rw [Bool.eq_iff_iff, beq_iff_eq, beq_iff_eq]
      exact ⟨fun h => by rw [h], fun h => UInt8.toNat_inj.1 h⟩
    rw [List.map_cons, List.map_cons, List.isPrefixOf, List.isPrefixOf, h, pfx_map sub s]
theorem pfx_app : ∀ (a b : List Nat), a.isPrefixOf b = true → b = a ++ b.drop a.length
  | [], b, _ => rfl
  | _ :: _, [], h => by cases h
  | x :: a, y :: b, h => by
    simp only [List.isPrefixOf, Bool.and_eq_true, beq_iff_eq] at h
    obtain ⟨rfl, h⟩ := h
    have := pfx_app a b h
    simp only [List.length_cons, List.drop_succ_cons, List.cons_append]
    rw [← this]
theorem pfx_self (a b : List Nat) : a.isPrefixOf (a ++ b) = true := by
  induction a with
  | nil => rfl
  | cons x a ih => simp [List.isPrefixOf, ih]
/-- What stands ahead of a mark. -/
structure Un (mk l : List Nat) (bad : Bool) (l' : List Nat) (bad' : Bool) (s : ByteArray) : Prop where
  suf : ∃ c, l = c ++ l'
  so : bad' = false → bad = false ∧ l = bts s ++ (mk ++ l')
  co : bad = false → ∀ a m, l = a ++ (mk ++ m) → (∀ j, j < a.length → mk.isPrefixOf (l.drop j) = false) → bad' = false ∧ bts s = a ∧ l' = m
theorem occ_bts (s sub : ByteArray) (j : Nat) : Lib.occAt s.data.toList sub.data.toList j = (bts sub).isPrefixOf ((bts s).drop j) := by
  unfold Lib.occAt bts
  rw [pfx_map, List.map_drop]
/-- What Index tells. -/
theorem idx_bts (s sub : ByteArray) : (Lib.index s.data.toList sub.data.toList = -1 ∧ ∀ j, j ≤ s.size → (bts sub).isPrefixOf ((bts s).drop j) = false) ∨ ∃ n : Nat, Lib.index s.data.toList sub.data.toList = (n : Int) ∧ n ≤ s.size ∧ (bts s).drop n = bts sub ++ (bts s).drop (n + sub.size) ∧ ∀ j, j < n → (bts sub).isPrefixOf ((bts s).drop j) = false := by
  have hl : s.data.toList.length = s.size := by simp
  rcases Lib.index_spec s.data.toList sub.data.toList with ⟨h1, h2⟩ | ⟨i, h1, h2, h3, h4⟩
  · exact .inl ⟨h1, fun j hj => by rw [← occ_bts]; exact h2 j (by omega)⟩
  · refine .inr ⟨i, h1, by omega, ?_, fun j hj => by rw [← occ_bts]; exact h4 j hj⟩
    rw [occ_bts] at h3
    have := pfx_app _ _ h3
    rw [List.drop_drop, bts_len] at this
    exact this
theorem Mx.dq {w : World} (h : Mx w) (q : Nat) : Mx (w.drewN q) := h.kept (grown_dq w q none) (by simp)
set_option maxRecDepth 8000 in
set_option maxHeartbeats 1000000 in
theorem until_any (r : Nat) (k : ByteArray) (i : Nat) (hi : i ≤ k.size) (hN : k.size ≤ 1000000000) (hr : r ≠ 0) (bad : Bool) (mark : ByteArray) (hm1 : mark.size ≤ 10) (W : World) (hm : Mx W) (hb : Blk W r 58 [.string k, .int .i64 (i : Int), .bool bad]) :
    Calls Tryz.prog 87 #[.pointer (some ⟨r, 0, none⟩), .string mark] W fun e w' => ∃ s j bad', e = .returned (.string s) ∧ Hid (Ko r k W w' j bad' ∧ s.size ≤ k.size ∧ Un (bts mark) ((bts k).drop i) bad ((bts k).drop j) bad' s) := by
  have c0 : W.cell? ⟨r, 0, none⟩ = some (.string k) := hb.cell 0
  have c1 : W.cell? ⟨r, 1, none⟩ = some (.int .i64 (i : Int)) := hb.cell 1
  have HB : Hid (Blk W r 58 [.string k, .int .i64 (i : Int), .bool bad]) := hb
  have hsz : (k.extract i k.size).size = k.size - i := by simp [ByteArray.size_extract]
  have KS : Hid (∀ q, Calls Tryz.prog 125 #[.string (k.extract i k.size), .string mark] (W.drewN q) fun e w' => e = .returned (.int .i64 (Lib.index (k.extract i k.size).data.toList mark.data.toList)) ∧ w' = W.drewN q) := fun q => by
    obtain ⟨m, hm⟩ := hm.dq q
    exact Any.strings_Index Tryz.lays143 _ _ m _ (by omega) hm
  have hI := idx_bts (k.extract i k.size) mark
  rw [bts_rest k i hi, hsz] at hI
  clear hb hm
  generalize Lib.index (k.extract i k.size).data.toList mark.data.toList = X at *
  rcases hI with ⟨rfl, h2⟩ | ⟨n, rfl, h2, h3, h4⟩
  · have HU : Hid (Un (bts mark) ((bts k).drop i) bad ((bts k).drop i) true ⟨#[]⟩) := ⟨⟨[], rfl⟩, fun h => (by cases h), fun _ a m hl _ => by
      exfalso
      have hla : a.length ≤ k.size - i := by
        have := congrArg List.length hl
        rw [List.length_drop, bts_len, List.length_append] at this
        omega
      have := h2 a.length hla
      rw [hl, List.drop_left, pfx_self] at this
      cases this⟩
    clear h2
    go_enter Tryz.func87, Tryz.ntmps87
    go_wp2
    go_quiet (exact Calls.quiet_of_same (KS.out _))
    have HB2 : Hid (Blk (W.drewN nq) r 58 [.string k, .int .i64 (i : Int), .bool bad]) := HB.out.dq nq
    have HG2 : Hid (W.grownBy (W.drewN nq) (some r)) := grown_dq W nq _
    generalize W.drewN nq = W2 at *
    clear c0 c1 HB KS
    go_wp2_with (refine st_one rfl 4 (.tmp 22) (.const (.bool true)) rfl r 2 58 _ (.bool true) rfl rfl rfl rfl (by simp) HB2.out s4 ?_)
    intro w3 b3 g3
    have HR : Hid (Ko r k W w3 i true) := ⟨b3, hi, HG2.out.trans g3⟩
    clear HB2 HG2 b3 g3
    go_wp2
    go_ret
    exact ⟨⟨#[]⟩, i, true, rfl, HR.out, Nat.zero_le _, HU.out⟩
  · have hroom : i + n + mark.size ≤ k.size := by
      have := congrArg List.length h3
      rw [List.length_drop, List.length_drop, bts_len, List.length_append, bts_len, List.length_drop, List.length_drop, bts_len] at this
      omega
    have hsn : bts (k.extract i (i + n)) = ((bts k).drop i).take n := bts_mid k i n (by omega)
    have hln : (((bts k).drop i).take n).length = n := by rw [List.length_take, List.length_drop, bts_len]; omega
    have h5 : (bts k).drop i = bts (k.extract i (i + n)) ++ (bts mark ++ (bts k).drop (i + n + mark.size)) := by
      rw [hsn]
      have := (List.take_append_drop n ((bts k).drop i)).symm
      rw [h3, List.drop_drop, ← Nat.add_assoc] at this
      exact this
    have HU : Hid (Un (bts mark) ((bts k).drop i) bad ((bts k).drop (i + n + mark.size)) bad (k.extract i (i + n))) := by
      refine ⟨⟨bts (k.extract i (i + n)) ++ bts mark, by rw [List.append_assoc]; exact h5⟩, fun hbb => ⟨hbb, h5⟩, fun hbb a m hl hf => ⟨hbb, ?_⟩⟩
      have hlen : a.length = n := by
        rcases Nat.lt_trichotomy a.length n with h | h | h
        · have := h4 a.length h
          rw [hl, List.drop_left, pfx_self] at this
          cases this
        · exact h
        · have := hf n h
          rw [h3, pfx_self] at this
          cases this
      have e1 : bts (k.extract i (i + n)) = a := by
        rw [hsn, hl, ← hlen, List.take_left]
      refine ⟨e1, ?_⟩
      rw [h5, e1] at hl
      exact List.append_cancel_left (List.append_cancel_left hl)
    have hse : (k.extract i (i + n)).size ≤ k.size := by simp [ByteArray.size_extract]; omega
    clear h3 h4 h5 hsn hln
    generalize hS : k.extract i (i + n) = S at *
    have hn0 : decide ((n : Int) < 0) = false := by simp
    go_enter Tryz.func87, Tryz.ntmps87
    go_wp2
    go_quiet (exact Calls.quiet_of_same (KS.out _))
    have HB2 : Hid (Blk (W.drewN nq) r 58 [.string k, .int .i64 (i : Int), .bool bad]) := HB.out.dq nq
    have HG2 : Hid (W.grownBy (W.drewN nq) (some r)) := grown_dq W nq _
    generalize W.drewN nq = W2 at *
    clear c0 c1 HB KS
    have K := take_ok r k i n (i + n) rfl (by omega) hN bad W2 HB2.out
    rw [hS] at K
    go_wp2_with fail
    refine K.mono ?_
    rintro e w3 ⟨rfl, H3⟩
    have HR3 : Hid (Ko r k W w3 (i + n) bad) := ⟨H3.out.blk, H3.out.le, HG2.out.trans H3.out.gr⟩
    clear K HB2 HG2 H3
    have K := take_ok r k (i + n) mark.size (i + n + mark.size) rfl hroom hN bad w3 HR3.out.blk
    go_wp2_with fail
    refine K.mono ?_
    rintro e w4 ⟨rfl, H4⟩
    have HR4 : Hid (Ko r k W w4 (i + n + mark.size) bad) := HR3.out.trans H4.out
    clear K HR3 H4
    go_wp2
    go_ret
    exact ⟨S, i + n + mark.size, bad, rfl, HR4.out, hse, HU.out⟩
/-! ### strings.Clone -/
set_option maxRecDepth 100000 in
theorem slclone_any (s : ByteArray) (hs : s.size ≤ maxLen) (w : World) (h48 : s.size ≤ 281474976710656) : Calls Tryz.prog 129 #[.string s] w fun e w' => e = .returned (.string s) ∧ Below w.heap.size w w' := by
  by_cases h0 : s.size = 0
  · obtain rfl : s = ⟨#[]⟩ := ByteArray.ext (Array.eq_empty_of_size_eq_zero h0)
    go_enter Tryz.func129, Tryz.ntmps129
    go_wp2
    go_ret
    exact ⟨rfl, Below.refl _ _⟩
  · obtain ⟨i0, hi, hz0, hz1, hz2⟩ := info_parts Tryz.info5
    have hinfo : (Tryz.prog.info? 5).map (·.size) = some 1 := by rw [hi]; simp [hz1]
    have hco : Tryz.prog.cellsOf 5 = 1 := by kernel_rfl
    obtain ⟨M, hM⟩ : ∃ M, M = madeCells (Value.int .u8 0).cells (((s.size : Nat) : Int).toNat * i0.size) := ⟨_, rfl⟩
    have hMs : M.size = s.size := by rw [hM, size_madeCells, hz1]; simp
    have hmk : ∀ W : World, (Instr.makeSlice 52 (.int .i64 (s.size : Int)) (.int .i64 (s.size : Int))).run Tryz.prog W = .ok (.slice (some ⟨W.heap.size, 0, none⟩) s.size s.size) (W.alloc (.cells M 5)) := fun W => by
      have h := run_make (P := Tryz.prog) W 52 5 i0 (.int .u8 0) Tryz.underlying52 hi hz0 .i64 .i64 (s.size : Int) (s.size : Int) (by omega) (by omega) (by rw [hz2]; omega) (by omega)
      rw [← hM] at h
      simpa using h
    clear hM
    have hcp := Lib.run_copy_row_string (P := Tryz.prog) (w.alloc (.cells M 5)) 52 9 3 5 w.heap.size 0 s.size s.size s M 5 Tryz.underlying52 hinfo (heap_alloc_new w _) (Nat.le_refl _) (by omega)
    obtain ⟨Y, hY⟩ : ∃ Y, Y = (M.toList.take 0 ++ Lib.byteCells s.data.toList ++ M.toList.drop (0 + s.size)).toArray := ⟨_, rfl⟩
    rw [← hY] at hcp
    have hYl : Y.toList = Lib.byteCells s.data.toList := by
      rw [hY, List.toList_toArray, List.take_zero, List.nil_append, List.drop_of_length_le (by rw [Array.length_toList]; omega), List.append_nil]
    have hYs : Y.size = s.size := by rw [← Array.length_toList, hYl, Lib.byteCells_length, ← Lib.size_eq]
    have hgY : ((w.alloc (.cells M 5)).setRow w.heap.size Y).heap[w.heap.size]? = some (.cells Y 5 (0, 0)) := setRow_heap _ _ M _ 5 (0, 0) (heap_alloc_new w _)
    have hne : s.data.toList ≠ [] := fun e => h0 (by rw [Lib.size_eq, e]; rfl)
    have hUS := Lib.run_unsafeString_row (P := Tryz.prog) ((w.alloc (.cells M 5)).setRow w.heap.size Y) 99 3 9 5 Tryz.underlying99 hco w.heap.size Y.size (by unfold World.shape?; rw [hgY]) s.data.toList hne (by rw [← Lib.size_eq]; omega) (by rw [← Lib.size_eq]; unfold maxLen at hs; omega)
      (fun j x hx => Lib.cells_of_row hgY Y.size j _ (by rw [List.take_of_length_le (by rw [Array.length_toList]; exact Nat.le_refl _), hYl]; simp [Lib.byteCells, hx]))
    rw [← Lib.size_eq] at hUS
    clear hY hs
    go_enter Tryz.func129, Tryz.ntmps129
    go_wp2
    go_ret
    have hb1 : Below w.heap.size w (w.alloc (.cells M 5)) := (Below.refl _ w).alloc (Nat.le_refl _) _
    have hb2 : Below w.heap.size (w.alloc (.cells M 5)) ((w.alloc (.cells M 5)).setRow w.heap.size Y) := ⟨rfl, rfl, rfl, by simp, fun k hk => setRow_other _ _ _ _ (by omega)⟩
    exact ⟨rfl, Lib.below_freeze (hb1.trans hb2) (p := ⟨w.heap.size, 0, none⟩) (Nat.le_refl _) _⟩
theorem sclone_any (s : ByteArray) (hs : s.size ≤ 281474976710656) (w : World) : Calls Tryz.prog 91 #[.string s] w fun e w' => e = .returned (.string s) ∧ Below w.heap.size w w' := by
  go_enter Tryz.func91, Tryz.ntmps91
  go_wp2_with (go_at_call 129; refine (slclone_any s (by unfold maxLen; omega) _ hs).mono ?_; rintro e w' ⟨rfl, hb⟩)
  go_ret
  exact ⟨rfl, hb⟩

/-! ### text -/
theorem idx2_hit (l : List UInt8) : Lib.index (0 :: 255 :: l) [0, 255] = ((0 : Nat) : Int) := by
  simp [Lib.index, List.isPrefixOf]
theorem idx2_skip (b : UInt8) (l : List UInt8) (h : b ≠ 0) : Lib.index (b :: l) [0, 255] = if Lib.index l [0, 255] == -1 then -1 else Lib.index l [0, 255] + 1 := by
  have : (List.isPrefixOf [0, 255] (b :: l)) = false := by
    simp only [List.isPrefixOf, Bool.and_eq_false_iff, beq_eq_false_iff_ne]
    exact .inl fun e => h e.symm
  rw [Lib.index, this]
  rfl
theorem rep2_skip (b : UInt8) (h : b ≠ 0) (new : List UInt8) : ∀ (k : Nat) (l : List UInt8), Lib.replaceK [0, 255] new k (b :: l) = b :: Lib.replaceK [0, 255] new k l
  | 0, l => rfl
  | k + 1, l => by
    by_cases hm : Lib.index l [0, 255] = -1
    · have h1 : Lib.index (b :: l) [0, 255] = -1 := by rw [idx2_skip b l h, hm]; rfl
      rw [Lib.replaceK, Lib.replaceK, if_pos (by rw [h1]; rfl), if_pos (by rw [hm]; rfl)]
    · obtain ⟨i, hi⟩ : ∃ i : Nat, Lib.index l [0, 255] = i := ⟨(Lib.index l [0, 255]).toNat, by have := Lib.index_ge l [0, 255]; omega⟩
      have h1 : Lib.index (b :: l) [0, 255] = ((i + 1 : Nat) : Int) := by
        rw [idx2_skip b l h, if_neg (by simpa using hm), hi]
        rfl
      rw [Lib.replaceK_hit _ _ _ _ _ h1, Lib.replaceK_hit _ _ _ _ _ hi]
      simp [Nat.add_right_comm]
theorem cnt2_skip (b : UInt8) (h : b ≠ 0) (l : List UInt8) : Lib.count (b :: l) [0, 255] = Lib.count l [0, 255] := by
  by_cases hm : Lib.index l [0, 255] = -1
  · have h1 : Lib.index (b :: l) [0, 255] = -1 := by rw [idx2_skip b l h, hm]; rfl
    rw [Lib.count_miss h1, Lib.count_miss hm]
  · obtain ⟨i, hi⟩ : ∃ i : Nat, Lib.index l [0, 255] = i := ⟨(Lib.index l [0, 255]).toNat, by have := Lib.index_ge l [0, 255]; omega⟩
    have h1 : Lib.index (b :: l) [0, 255] = ((i + 1 : Nat) : Int) := by
      rw [idx2_skip b l h, if_neg (by simpa using hm), hi]
      rfl
    rw [Lib.count_hit (by simp) h1, Lib.count_hit (by simp) hi]
    simp [Nat.add_right_comm]
theorem rep2_all : ∀ l : List UInt8, Lib.replaceK [0, 255] [0] (Lib.count (escU l) [0, 255]) (escU l) = l
  | [] => by
    have : Lib.count (escU []) [0, 255] = 0 := Lib.count_miss (by decide)
    rw [this]; rfl
  | b :: l => by
    by_cases h : b = 0
    · subst h
      rw [escU, if_pos rfl, Lib.count_hit (by simp) (idx2_hit _), Nat.add_comm, Lib.replaceK_hit _ _ _ _ _ (idx2_hit _)]
      have := rep2_all l
      simp only [List.take_zero, List.nil_append, List.length_cons, List.length_nil, Nat.zero_add, List.drop_succ_cons, List.drop_zero, this]
      rfl
    · rw [escU, if_neg h, cnt2_skip b h, rep2_skip b h, rep2_all l]
theorem esc_inv {g t : ByteArray} (h : bts g = esc (bts t)) : (⟨(Lib.replaceAll g.data.toList [0, 255] [0]).toArray⟩ : ByteArray) = t := by
  have h0 : g.data.toList = escU t.data.toList := by
    have h1 : g.data.toList.map UInt8.toNat = (escU t.data.toList).map UInt8.toNat := by rw [escU_map]; exact h
    exact List.map_inj_right (fun x y e => UInt8.toNat_inj.1 e) |>.1 h1
  have h1 : Lib.replaceAll g.data.toList [0, 255] [0] = t.data.toList := by
    unfold Lib.replaceAll Lib.replace
    rw [if_neg (by decide)]
    unfold Lib.replaceNum
    rw [if_pos (.inl (by decide)), h0, rep2_all]
  rw [h1]
theorem esc_first : ∀ (a m : List Nat) (j : Nat), j < (esc a).length → List.isPrefixOf [0, 0] ((esc a ++ ([0, 0] ++ m)).drop j) = false
  | [], m, j, h => by simp [esc] at h
  | x :: a, m, j, h => by
    rw [esc] at h ⊢
    by_cases hx : x = 0
    · rw [if_pos hx] at h ⊢
      match j with
      | 0 => simp [List.isPrefixOf]
      | 1 => simp [List.isPrefixOf]
      | j + 2 =>
        simp only [List.cons_append, List.drop_succ_cons]
        exact esc_first a m j (by simpa using h)
    · rw [if_neg hx] at h ⊢
      match j with
      | 0 =>
        simp only [List.cons_append, List.drop_zero, List.isPrefixOf, Bool.and_eq_false_iff, beq_eq_false_iff_ne]
        exact .inl fun e => hx e.symm
      | j + 1 =>
        simp only [List.cons_append, List.drop_succ_cons]
        exact esc_first a m j (by simpa using h)
theorem repl_size (g : ByteArray) : (⟨(Lib.replaceAll g.data.toList [0, 255] [0]).toArray⟩ : ByteArray).size ≤ g.size := by
  have key : ∀ (k : Nat) (l : List UInt8), (Lib.replaceK [0, 255] [0] k l).length ≤ l.length := by
    intro k
    induction k with
    | zero => intro l; exact Nat.le_refl _
    | succ k ih =>
      intro l
      by_cases hm : Lib.index l [0, 255] = -1
      · rw [Lib.replaceK, if_pos (by rw [hm]; rfl)]
        exact Nat.le_refl _
      · obtain ⟨i, hi⟩ : ∃ i : Nat, Lib.index l [0, 255] = i := ⟨(Lib.index l [0, 255]).toNat, by have := Lib.index_ge l [0, 255]; omega⟩
        rw [Lib.replaceK_hit _ _ _ _ _ hi]
        have h1 := ih (l.drop (i + [0, 255].length))
        have h2 : i + 2 ≤ l.length := by
          rcases Lib.index_spec l [0, 255] with ⟨e, _⟩ | ⟨j, e, _, h3, _⟩
          · omega
          · obtain rfl : j = i := by omega
            rcases Lib.occAt_room h3 with h | h
            · exact h
            · cases h
        simp only [List.length_append, List.length_take, List.length_drop, List.length_cons, List.length_nil] at h1 ⊢
        omega
  have h1 : Lib.replaceAll g.data.toList [0, 255] [0] = Lib.replaceK [0, 255] [0] (Lib.replaceNum g.data.toList [0, 255] (-1)) g.data.toList := by
    unfold Lib.replaceAll Lib.replace
    rw [if_neg (by decide)]
  have h2 := key (Lib.replaceNum g.data.toList [0, 255] (-1)) g.data.toList
  rw [h1]
  have e1 : ∀ l : List UInt8, (⟨l.toArray⟩ : ByteArray).size = l.length := fun l => by simp [ByteArray.size]
  have e2 : g.size = g.data.toList.length := by simp
  rw [e1, e2]
  exact h2
theorem wrb_any (s : ByteArray) (hs : s.size ≤ 1000000000) (W : World) (hm : Mx W) :
    Calls Tryz.prog 84 #[.string s] W fun e w' => e = .returned (.string (ofB (esc (bts s)))) ∧ Below W.heap.size W w' := by
  obtain ⟨m, hm⟩ := hm
  have hc : Lib.countB s ⟨#[0]⟩ ≤ s.size := by
    have := Lib.countB_mul_le ⟨#[0]⟩ (by decide) s.size s (Nat.le_refl _)
    have e : (⟨#[0]⟩ : ByteArray).size = 1 := rfl
    rw [e] at this
    omega
  have K : Calls Tryz.prog 90 #[.string s, .string ⟨#[0]⟩, .string ⟨#[0, 255]⟩] W fun e w' => e = .returned (.string ⟨(Lib.replaceAll s.data.toList [0] [0, 255]).toArray⟩) ∧ Below W.heap.size W w' :=
    Any.strings_ReplaceAll { Tryz.laysM155 with } Tryz.Builder_Extra_M155 s ⟨#[0]⟩ ⟨#[0, 255]⟩ m W (by omega) hm (by decide) (by
      have e : (⟨#[0, 255]⟩ : ByteArray).size = 2 := rfl
      rw [e]
      omega)
  rw [replaceAll_esc] at K
  generalize ofB (esc (bts s)) = R at *
  clear hc hm
  go_enter Tryz.func84, Tryz.ntmps84
  go_wp2_with fail
  refine K.mono ?_
  rintro e w1 ⟨rfl, b1⟩
  go_wp2
  go_ret
  exact ⟨rfl, b1⟩
set_option maxRecDepth 8000 in
set_option maxHeartbeats 1000000 in
theorem text_any (r : Nat) (k : ByteArray) (i : Nat) (hi : i ≤ k.size) (hN : k.size ≤ 1000000000) (hr : r ≠ 0) (bad : Bool) (W : World) (hm : Mx W) (hb : Blk W r 58 [.string k, .int .i64 (i : Int), .bool bad]) :
    Calls Tryz.prog 45 #[.pointer (some ⟨r, 0, none⟩)] W fun e w' => ∃ s j bad', e = .returned (.string s) ∧ Hid (Ko r k W w' j bad' ∧ s.size ≤ k.size ∧ Rd txK (fun _ => True) (fun _ => True) ((bts k).drop i) bad ((bts k).drop j) bad' s) := by
  have K := until_any r k i hi hN hr bad ⟨#[0, 0]⟩ (by decide) W hm hb
  have HM : Hid (Mx W) := hm
  clear hb hm
  go_enter Tryz.func45, Tryz.ntmps45
  go_wp2_with fail
  refine K.mono ?_
  rintro e w1 ⟨g, j, bad1, rfl, H1⟩
  have HM1 : Hid (Mx w1) := HM.out.kept H1.out.1.gr (by intro e; injection e with e; exact hr e)
  have HL : Hid (r < w1.heap.size) := H1.out.1.blk.lt
  have hgs := H1.out.2.1
  clear K HM
  have K : Calls Tryz.prog 90 #[.string g, .string ⟨#[0, 255]⟩, .string ⟨#[0]⟩] w1 fun e w' => e = .returned (.string ⟨(Lib.replaceAll g.data.toList [0, 255] [0]).toArray⟩) ∧ Below w1.heap.size w1 w' := by
    obtain ⟨m, hm⟩ := HM1.out
    have hc : Lib.countB g ⟨#[0, 255]⟩ ≤ g.size := by
      have := Lib.countB_mul_le ⟨#[0, 255]⟩ (by decide) g.size g (Nat.le_refl _)
      have e : (⟨#[0, 255]⟩ : ByteArray).size = 2 := rfl
      rw [e] at this
      omega
    exact Any.strings_ReplaceAll { Tryz.laysM155 with } Tryz.Builder_Extra_M155 g ⟨#[0, 255]⟩ ⟨#[0]⟩ m w1 (by omega) hm (by decide) (by
      have e : (⟨#[0]⟩ : ByteArray).size = 1 := rfl
      rw [e]
      omega)
  have hss := repl_size g
  obtain ⟨s, hs⟩ : ∃ s, s = (⟨(Lib.replaceAll g.data.toList [0, 255] [0]).toArray⟩ : ByteArray) := ⟨_, rfl⟩
  have HC : Hid (∀ t, bts g = esc (bts t) → s = t) := fun t ht => by rw [hs]; exact esc_inv ht
  rw [← hs] at K hss
  clear hs
  go_wp2_with fail
  refine K.mono ?_
  rintro e w2 ⟨rfl, b2⟩
  have HK2 : Hid (Ko r k W w2 j bad1) := H1.out.1.below b2
  have HM2 : Hid (Mx w2) := HM1.out.below b2 HM1.out.pos
  clear K b2 HM1
  have K := wrb_any s (by omega) w2 HM2.out
  have HE : Hid (bts (ofB (esc (bts s))) = esc (bts s)) := bts_ofB _ (esc_oct (bts_oct s))
  generalize ofB (esc (bts s)) = E at *
  go_wp2_with fail
  refine K.mono ?_
  rintro e w3 ⟨rfl, b3⟩
  have HK3 : Hid (Ko r k W w3 j bad1) := HK2.out.below b3
  have HM3 : Hid (Mx w3) := HM2.out.below b3 HM2.out.pos
  clear K b3 HM2 HK2
  by_cases heq : E = g
  · subst heq
    have hz : (E.toList == E.toList) = true := by simp
    have K := sclone_any s (by omega) w3
    have HF : Hid (Rd txK (fun _ => True) (fun _ => True) ((bts k).drop i) bad ((bts k).drop j) bad1 s) := by
      have U := H1.out.2.2
      have e2 : bts (⟨#[0, 0]⟩ : ByteArray) = [0, 0] := by decide
      rw [e2] at U
      refine ⟨U.suf, fun h => ?_, fun h t m _ hl => ?_⟩
      · obtain ⟨u1, u2⟩ := U.so h
        refine ⟨u1, fun _ => ?_⟩
        rw [u2, HE.out, txK, List.append_assoc]
      · rw [txK, List.append_assoc] at hl
        obtain ⟨u1, u2, u3⟩ := U.co h (esc (bts t)) m hl (fun x hx => by rw [hl]; exact esc_first _ _ x hx)
        exact ⟨u1, HC.out t u2, u3⟩
    clear H1 HE HC
    go_wp2_with fail
    refine K.mono ?_
    rintro e w4 ⟨rfl, b4⟩
    have HK4 : Hid (Ko r k W w4 j bad1) := HK3.out.below b4
    clear K b4
    go_wp2
    go_ret
    exact ⟨s, j, bad1, rfl, HK4.out, by omega, HF.out⟩
  · have hz : (E.toList == g.toList) = false := by
      rw [beq_eq_false_iff_ne]
      exact fun e => heq (by rw [← ofB_bts E, ← ofB_bts g]; unfold bts; rw [ByteArray.toList_eq, ByteArray.toList_eq] at e; rw [e])
    have HF : Hid (Rd txK (fun _ => True) (fun _ => True) ((bts k).drop i) bad ((bts k).drop j) true s) := by
      have U := H1.out.2.2
      have e2 : bts (⟨#[0, 0]⟩ : ByteArray) = [0, 0] := by decide
      rw [e2] at U
      refine ⟨U.suf, fun h => (by cases h), fun h t m _ hl => ?_⟩
      exfalso
      rw [txK, List.append_assoc] at hl
      obtain ⟨u1, u2, u3⟩ := U.co h (esc (bts t)) m hl (fun x hx => by rw [hl]; exact esc_first _ _ x hx)
      have := HC.out t u2
      subst this
      exact heq (bts_inj (by rw [HE.out, u2]))
    clear H1 HE HC
    go_wp2_with (refine st_one rfl 4 (.tmp 15) (.const (.bool true)) rfl r 2 58 _ (.bool true) rfl rfl rfl rfl (by simp) HK3.out.blk s4 ?_)
    intro w4 b4 g4
    have HK4 : Hid (Ko r k W w4 j true) := ⟨b4, HK3.out.le, HK3.out.gr.trans g4⟩
    clear b4 g4 HK3
    have K := sclone_any s (by omega) w4
    go_wp2_with fail
    refine K.mono ?_
    rintro e w5 ⟨rfl, b5⟩
    have HK5 : Hid (Ko r k W w5 j true) := HK4.out.below b5
    clear K b5 HK4
    go_wp2
    go_ret
    exact ⟨s, j, true, rfl, HK5.out, by omega, HF.out⟩
end Go.Proofs.YtmlfhplhiedfjaaGreatDoor
