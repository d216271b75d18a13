import Derived.Test.YtpfiejmhnkcjbaaGreatDoorHG12x
namespace Go.Proofs.YtpfiejmhnkcjbaaGreatDoor
set_option maxHeartbeats 4000000
set_option maxRecDepth 8000
open Go.RowKit Lx
set_option linter.unusedVariables false
set_option linter.unusedSimpArgs false
theorem bts_takeL (s : ByteArray) (n : Nat) (h : n <= s.size) : bts (s.extract 0 n) = (bts s).take n := by
 have := bts_midL s 0 n (by omega)
 rwa [Nat.zero_add, List.drop_zero] at this
theorem bts_restL (s : ByteArray) (i : Nat) (h : i <= s.size) : bts (s.extract i s.size) = (bts s).drop i := by
 have := bts_midL s i (s.size - i) (by omega)
 rw [show i + (s.size - i) = s.size by omega] at this
 rw [this, List.take_of_length_le (by rw [List.length_drop, bts_len]; exact Nat.le_refl _)]
theorem size_ex (s : ByteArray) (i n : Nat) (h : n <= s.size) : (s.extract i n).size = n - i := by
 rw [ByteArray.size_extract]; omega
theorem em_iff (A : ByteArray) (h : A.size ≠ 0) : (A.toList == []) = false := by
 rw [ByteArray.toList_eq, beq_eq_false_iff_ne]
 intro e
 apply h
 have : A.data.toList.length = 0 := by rw [e]; rfl
 rwa [Array.length_toList] at this
theorem quoted_any (s : ByteArray) (hs : s.size <= 4096) (q : List Nat) (hq : bts s = 34 :: q) (w : World) : Calls Tryz.prog 38 #[.string s] w fun e w' => e = AnsE (if q.length = (q.takeWhile (· != 34)).length ∨ (q.takeWhile (· != 34)).length < 1 ∨ 40 < (q.takeWhile (· != 34)).length then (0, [], 0) else (1, q.takeWhile (· != 34), (q.takeWhile (· != 34)).length + 2)) /\ Hid (Below w.heap.size w w') := by
 obtain ⟨X, HX⟩ : ∃ X : Nat × List Nat × Nat, Hid ((if q.length = (q.takeWhile (· != 34)).length ∨ (q.takeWhile (· != 34)).length < 1 ∨ 40 < (q.takeWhile (· != 34)).length then (0, [], 0) else (1, q.takeWhile (· != 34), (q.takeWhile (· != 34)).length + 2)) = X) := ⟨_, rfl⟩
 rw [HX.out]
 have hsz : s.size = q.length + 1 := by rw [<- bts_len, hq]; rfl
 have hR : bts (s.extract 1 s.size) = q := by rw [bts_restL s 1 (by omega), hq]; rfl
 obtain ⟨T, hT⟩ : ∃ T, (q.takeWhile (· != 34)).length = T := ⟨_, rfl⟩
 obtain ⟨R, hRR⟩ : ∃ R, s.extract 1 s.size = R := ⟨_, rfl⟩
 rw [hRR] at hR
 have hRs : R.size = q.length := by rw [<- bts_len, hR]
 have KQ := qcut_any R (by omega) T (by rw [hR]; exact hT)
 rw [hT] at HX
 have x1 : (1 : Int) <= (s.size : Int) := by omega
 have HSZ : Hid (s.size = q.length + 1 /\ R.size = q.length) := ⟨hsz, hRs⟩
 have HRR : Hid (s.extract 1 s.size = R) := hRR
 clear hsz hRs hRR hq
 go_enter Tryz.func38, Tryz.ntmps38
 go_wp2_with (refine al_zero rfl 32 rfl tkZ zTk ?_)
 intro g w1 hg bz gr
 have HZ1 : Hid (Blk w1 g 32 tkZ) := bz
 have HB1 : Hid (Below w.heap.size w w1) := (Below.refl _ _).grown gr (Nat.le_refl _) (fun k e => by cases e)
 clear bz gr
 rcases KQ with ⟨hf, KQ⟩ | ⟨hf, KQ⟩
 . have hA : bts (R.extract 0 T) = q.takeWhile (· != 34) := by
    rw [bts_takeL R T (by omega), hR, <- hT]
    exact (List.prefix_iff_eq_take.1 (List.takeWhile_prefix _)).symm
   have hAs : (R.extract 0 T).size = T := by rw [size_ex R 0 T (by omega)]; omega
   obtain ⟨A, hAA⟩ : ∃ A, R.extract 0 T = A := ⟨_, rfl⟩
   obtain ⟨B, hBB⟩ : ∃ B, R.extract (T + 1) R.size = B := ⟨_, rfl⟩
   rw [hAA] at hA hAs KQ
   rw [hBB] at KQ
   have HA : Hid (ofB (q.takeWhile (· != 34)) = A) := by rw [<- hA, ofB_bts]; rfl
   clear hAA hBB hA
   go_wp2_with fail
   rw [HRR.out]
   refine (KQ _).mono ?_
   rintro e w2 ⟨rfl, q1⟩
   have HZ2 : Hid (Blk w2 g 32 tkZ) := HZ1.out.below q1 HZ1.out.lt
   have HB2 : Hid (Below w.heap.size w w2) := HB1.out.trans (q1.mono HB1.out.size)
   clear q1 HZ1 HB1 hR HRR
   by_cases h0 : T = 0
   . rw [if_pos (.inr (.inl (by omega)))] at HX
     have : A = ⟨#[]⟩ := by
      apply ByteArray.ext
      apply Array.eq_empty_of_size_eq_zero
      exact hAs.trans h0
     subst this
     clear hAs HA
     go_wp2_with fail
     refine (none_any _).mono ?_
     rintro e w3 ⟨rfl, q⟩
     have HZ3 : Hid (Blk w3 g 32 tkZ) := HZ2.out.below (Hid.out q) HZ2.out.lt
     have HB3 : Hid (Below w.heap.size w w3) := HB2.out.trans ((Hid.out q).mono HB2.out.size)
     clear q HZ2 HB2
     go_wp2_with (refine st_all rfl 32 (.tmp 2) (.tmp 26) rfl g 32 tkZ (tk1 (0, [], 0)) rfl rfl HZ3.out rfl sTk (one_k _ _) ?_)
     intro w98 b98 g98
     have HBB : Hid (Below w.heap.size w w98) := HB3.out.grown g98 HB3.out.size (fun k e => by injection e with e; omega)
     have HZZ : Hid (Blk w98 g 32 (tk1 (0, [], 0))) := b98
     clear b98 g98 HZ3 HB3
     go_wp2
     refine bodyPost_ret (res_two rfl _ g 32 _ _ rfl HZZ.out Tryz.underlying32 rfl sTk) rfl ?_
     rw [<- HX.out]
     exact ⟨rfl, HBB.out⟩
   . have hem := em_iff A (by omega)
     by_cases h40 : 40 < T
     . rw [if_pos (.inr (.inr h40))] at HX
       have x2 : (40 : Int) < (A.size : Int) := by omega
       clear hAs HA
       go_wp2_with fail
       refine (none_any _).mono ?_
       rintro e w3 ⟨rfl, q⟩
       have HZ3 : Hid (Blk w3 g 32 tkZ) := HZ2.out.below (Hid.out q) HZ2.out.lt
       have HB3 : Hid (Below w.heap.size w w3) := HB2.out.trans ((Hid.out q).mono HB2.out.size)
       clear q HZ2 HB2
       go_wp2_with (refine st_all rfl 32 (.tmp 2) (.tmp 26) rfl g 32 tkZ (tk1 (0, [], 0)) rfl rfl HZ3.out rfl sTk (one_k _ _) ?_)
       intro w98 b98 g98
       have HBB : Hid (Below w.heap.size w w98) := HB3.out.grown g98 HB3.out.size (fun k e => by injection e with e; omega)
       have HZZ : Hid (Blk w98 g 32 (tk1 (0, [], 0))) := b98
       clear b98 g98 HZ3 HB3
       go_wp2
       refine bodyPost_ret (res_two rfl _ g 32 _ _ rfl HZZ.out Tryz.underlying32 rfl sTk) rfl ?_
       rw [<- HX.out]
       exact ⟨rfl, HBB.out⟩
     . rw [if_neg (by have := HSZ.out; omega)] at HX
       have x2 : ¬ (40 : Int) < (A.size : Int) := by omega
       have x3 : IntKind.i64.wrap ((A.size : Int) + 2) = ((T + 2 : Nat) : Int) := by rw [IntKind.wrap_i64]; omega
       have x4 : (A.size : Int) + 2 = ((T + 2 : Nat) : Int) := by omega
       clear hf hT hs x1
       go_wp2_with (refine st_all rfl 32 (.tmp 2) (.tmp 29) rfl g 32 tkZ (tk1 (1, q.takeWhile (· != 34), 0)) rfl (by unfold tk1; rw [HA.out]; rfl) HZ2.out rfl sTk (one_k _ _) ?_)
       intro w98 b98 g98
       have HBB : Hid (Below w.heap.size w w98) := HB2.out.grown g98 HB2.out.size (fun k e => by injection e with e; omega)
       have HZZ : Hid (Blk w98 g 32 (tk1 (1, q.takeWhile (· != 34), 0))) := b98
       clear b98 g98 HZ2 HB2
       go_wp2
       refine bodyPost_ret (res_two rfl _ g 32 _ _ rfl HZZ.out Tryz.underlying32 rfl sTk) rfl ?_
       rw [<- HX.out]
       exact ⟨rfl, HBB.out⟩
 . rw [if_pos (.inl (by have := tw_le (· != 34) q; have := HSZ.out; omega))] at HX
   go_wp2_with fail
   rw [HRR.out]
   refine (KQ _).mono ?_
   rintro e w2 ⟨rfl, q1⟩
   have HZ2 : Hid (Blk w2 g 32 tkZ) := HZ1.out.below q1 HZ1.out.lt
   have HB2 : Hid (Below w.heap.size w w2) := HB1.out.trans (q1.mono HB1.out.size)
   clear q1 HZ1 HB1 hR HRR
   go_wp2_with fail
   refine (none_any _).mono ?_
   rintro e w3 ⟨rfl, q⟩
   have HZ3 : Hid (Blk w3 g 32 tkZ) := HZ2.out.below (Hid.out q) HZ2.out.lt
   have HB3 : Hid (Below w.heap.size w w3) := HB2.out.trans ((Hid.out q).mono HB2.out.size)
   clear q HZ2 HB2
   go_wp2_with (refine st_all rfl 32 (.tmp 2) (.tmp 26) rfl g 32 tkZ (tk1 (0, [], 0)) rfl rfl HZ3.out rfl sTk (one_k _ _) ?_)
   intro w98 b98 g98
   have HBB : Hid (Below w.heap.size w w98) := HB3.out.grown g98 HB3.out.size (fun k e => by injection e with e; omega)
   have HZZ : Hid (Blk w98 g 32 (tk1 (0, [], 0))) := b98
   clear b98 g98 HZ3 HB3
   go_wp2
   refine bodyPost_ret (res_two rfl _ g 32 _ _ rfl HZZ.out Tryz.underlying32 rfl sTk) rfl ?_
   rw [<- HX.out]
   exact ⟨rfl, HBB.out⟩
theorem two_ne {A : ByteArray} {L : List Nat} {M : List UInt8} (h : bts A = L) (hn : L ≠ M.map UInt8.toNat) : (A.toList == M) = false := by
 rw [tl_nat, h]
 exact beq_eq_false_iff_ne.2 hn
def sgA (r : List Nat) : Nat × List Nat × Nat := if sgn r = [] then (0, [], 0) else (6, told (sgn r), (sgn r).length)
theorem sgA_one {c : Nat} : sgA [c] = if isS1 c = true then (6, [c], 1) else (0, [], 0) := by
 unfold sgA
 rw [sgn_one]
 cases h : isS1 c with
 | true =>
   simp only [if_true]
   rw [if_neg (by simp), told, if_neg (by simp)]
   rfl
 | false => simp
theorem sgA_two {c d : Nat} {q : List Nat} (h : isTwo [c, d] = false) : sgA (c :: d :: q) = if isS1 c = true then (6, [c], 1) else (0, [], 0) := by
 unfold sgA
 rw [sgn_two, h]
 simp only [Bool.false_eq_true, if_false]
 cases h : isS1 c with
 | true =>
   simp only [if_true]
   rw [if_neg (by simp), told, if_neg (by simp)]
   rfl
 | false => simp
theorem sgA_yes {c d : Nat} {q : List Nat} (h : isTwo [c, d] = true) : sgA (c :: d :: q) = (6, told [c, d], 2) := by
 unfold sgA
 rw [sgn_two, h]
 simp
theorem psign_any (s : ByteArray) (hs : s.size <= 4096) (h0 : s.size ≠ 0) (w : World) : Calls Tryz.prog 40 #[.string s] w fun e w' => e = AnsE (sgA (bts s)) /\ Hid (Below w.heap.size w w') := by
 obtain ⟨X, HX⟩ : ∃ X : Nat × List Nat × Nat, Hid (sgA (bts s) = X) := ⟨_, rfl⟩
 rw [HX.out]
 have hlt : 0 < s.size := by omega
 have x1 : (1 : Int) <= (s.size : Int) := by omega
 have HE1 : Hid (s.extract 0 1 = ofB [(bts s).getD 0 0]) := by
  have h := bts_takeL s 1 (by omega)
  have e := bts_dropL s 0 hlt
  rw [List.drop_zero] at e
  rw [<- ofB_bts (s.extract 0 1), h, e]
  rfl
 have HH : Hid (∀ W, Calls Tryz.prog 34 #[.agg (cC cS0 cS1).toArray, .int .u8 (((bts s).getD 0 0 : Nat) : Int)] W fun e w' => e = .returned (.bool (isS1 ((bts s).getD 0 0))) /\ Hid (Below W.heap.size W w')) := fun W => by
  have := has_any cS0 cS1 ((bts s).getD 0 0) (by decide) (by decide) (oct_getD s 0) W
  rw [inC_sg _ (oct_getD s 0)] at this
  exact this
 go_enter Tryz.func40, Tryz.ntmps40
 go_wp2_with (refine al_zero rfl 32 rfl tkZ zTk ?_)
 intro g w1 hg bz gr
 have HZ1 : Hid (Blk w1 g 32 tkZ) := bz
 have HB1 : Hid (Below w.heap.size w w1) := (Below.refl _ _).grown gr (Nat.le_refl _) (fun k e => by cases e)
 clear bz gr
 by_cases h1 : s.size = 1
 . have e : bts s = [(bts s).getD 0 0] := by
    have e := bts_dropL s 0 hlt
    rw [List.drop_zero, List.drop_of_length_le (by rw [bts_len]; omega)] at e
    exact e
   have n2 : ∀ M : List UInt8, M.length = 2 -> ((s.extract 0 1).toList == M) = false := fun M hM => by
    refine two_ne (L := bts s) ?_ ?_
    . rw [bts_takeL s 1 (by omega), List.take_of_length_le (by rw [bts_len]; omega)]
    . intro e2
      have := congrArg List.length e2
      rw [bts_len, List.length_map, hM] at this
      omega
   have n3 := n2 [60, 62] rfl
   have n4 := n2 [60, 61] rfl
   have n5 := n2 [62, 61] rfl
   have n6 := n2 [33, 61] rfl
   have n7 := n2 [124, 124] rfl
   rw [e, sgA_one] at HX
   have x2 : min (2 : Int) (s.size : Int) = 1 := by omega
   clear n2 e h0 hs h1
   cases hV : isS1 ((bts s).getD 0 0) with
   | true =>
     obtain ⟨C, hC⟩ : ∃ C : World -> Prop, C = fun W => Below w1.heap.size w1 W := ⟨_, rfl⟩
     have C0 : Hid (C { w1 with drawn := w1.drawn + 1 }) := by rw [hC]; exact Below.drew (Below.refl _ _)
     have CO : Hid (∀ W, C W -> Below w1.heap.size w1 W) := fun W h => by rw [hC] at h; exact h
     have hCp : ∀ p : Prop, (∀ W, C W -> p) ↔ p := fun p => ⟨fun h => h _ C0.out, fun h _ _ => h⟩
     have F1 : Hid (∀ W, C W -> Calls Tryz.prog 56 #[] W fun e' w' => e' = .returned (.agg (cC cS0 cS1).toArray) /\ C w') := fun W h => by
      rw [hC] at h ⊢
      refine (signs_any W).mono ?_
      rintro e' w' ⟨rfl, H⟩
      exact ⟨rfl, h.trans (H.out.mono h.size)⟩
     have F2 : Hid (∀ W, C W -> Calls Tryz.prog 34 #[.agg (cC cS0 cS1).toArray, .int .u8 (((bts s).getD 0 0 : Nat) : Int)] W fun e' w' => e' = .returned (.bool true) /\ C w') := fun W h => by
      rw [hC] at h ⊢
      refine (HH.out W).mono ?_
      rintro e' w' ⟨rfl, H⟩
      rw [hV]
      exact ⟨rfl, h.trans (H.out.mono h.size)⟩
     clear hC
     rw [hV] at HX
     rw [if_pos rfl] at HX
     go_wp2_with fail
     refine wp_region_quiet (C := C) (by kernel_rfl) (by kernel_rfl) C0.out ?_
     change wpQuiet _ _ _ _ (_ :: _ :: _ :: _ :: []) _
     repeat (first
      | go_big_quiet_skip
      | (go_big_quiet_want
         first
         | (refine lx_call 56 _ _ rfl #[] (by rw [List.map_toArray]; rfl) (lx_enters Tryz.func56 (by kernel_rfl) rfl) (.agg (cC cS0 cS1).toArray) F1.out ?_
            simp only [Act.put, List.setIfInBounds_toArray, List.set_cons_zero, List.set_cons_succ]
            go_big_quiet_on)
         | (refine lx_idx (.tmp 22) (.const (.int .i64 0)) rfl s 0 rfl rfl hlt ?_
            simp only [Act.put, List.setIfInBounds_toArray, List.set_cons_zero, List.set_cons_succ]
            go_big_quiet_on)
         | (refine lx_call 34 _ _ rfl #[.agg (cC cS0 cS1).toArray, .int .u8 (((bts s).getD 0 0 : Nat) : Int)] (by rw [List.map_toArray]; rfl) (lx_enters Tryz.func34 (by kernel_rfl) rfl) (.bool true) F2.out ?_
            simp only [Act.put, List.setIfInBounds_toArray, List.set_cons_zero, List.set_cons_succ]
            go_big_quiet_on)
         | (go_big_quiet_op
            go_big_quiet_on)))
     refine wpQuiet_nil ?_
     intro w9 h9
     have HB2 : Hid (Below w.heap.size w w9) := HB1.out.trans ((CO.out _ h9).mono HB1.out.size)
     have HZ2 : Hid (Blk w9 g 32 tkZ) := HZ1.out.below (CO.out _ h9) HZ1.out.lt
     clear h9 hCp C0 F1 F2 CO HB1 HZ1
     go_wp2_with (refine st_all rfl 32 (.tmp 2) (.tmp 27) rfl g 32 tkZ (tk1 (6, [(bts s).getD 0 0], 0)) rfl (by unfold tk1; rw [<- HE1.out]; rfl) HZ2.out rfl sTk (one_k _ _) ?_)
     intro w98 b98 g98
     have HBB : Hid (Below w.heap.size w w98) := HB2.out.grown g98 HB2.out.size (fun k e => by injection e with e; omega)
     have HZZ : Hid (Blk w98 g 32 (tk1 (6, [(bts s).getD 0 0], 0))) := b98
     clear b98 g98 HZ2 HB2
     go_wp2
     refine bodyPost_ret (res_two rfl _ g 32 _ _ rfl HZZ.out Tryz.underlying32 rfl sTk) rfl ?_
     rw [<- HX.out]
     exact ⟨rfl, HBB.out⟩
   | false =>
     obtain ⟨C, hC⟩ : ∃ C : World -> Prop, C = fun W => Below w1.heap.size w1 W := ⟨_, rfl⟩
     have C0 : Hid (C { w1 with drawn := w1.drawn + 1 }) := by rw [hC]; exact Below.drew (Below.refl _ _)
     have CO : Hid (∀ W, C W -> Below w1.heap.size w1 W) := fun W h => by rw [hC] at h; exact h
     have hCp : ∀ p : Prop, (∀ W, C W -> p) ↔ p := fun p => ⟨fun h => h _ C0.out, fun h _ _ => h⟩
     have F1 : Hid (∀ W, C W -> Calls Tryz.prog 56 #[] W fun e' w' => e' = .returned (.agg (cC cS0 cS1).toArray) /\ C w') := fun W h => by
      rw [hC] at h ⊢
      refine (signs_any W).mono ?_
      rintro e' w' ⟨rfl, H⟩
      exact ⟨rfl, h.trans (H.out.mono h.size)⟩
     have F2 : Hid (∀ W, C W -> Calls Tryz.prog 34 #[.agg (cC cS0 cS1).toArray, .int .u8 (((bts s).getD 0 0 : Nat) : Int)] W fun e' w' => e' = .returned (.bool false) /\ C w') := fun W h => by
      rw [hC] at h ⊢
      refine (HH.out W).mono ?_
      rintro e' w' ⟨rfl, H⟩
      rw [hV]
      exact ⟨rfl, h.trans (H.out.mono h.size)⟩
     clear hC
     rw [hV] at HX
     rw [if_neg (by decide)] at HX
     go_wp2_with fail
     refine wp_region_quiet (C := C) (by kernel_rfl) (by kernel_rfl) C0.out ?_
     change wpQuiet _ _ _ _ (_ :: _ :: _ :: _ :: []) _
     repeat (first
      | go_big_quiet_skip
      | (go_big_quiet_want
         first
         | (refine lx_call 56 _ _ rfl #[] (by rw [List.map_toArray]; rfl) (lx_enters Tryz.func56 (by kernel_rfl) rfl) (.agg (cC cS0 cS1).toArray) F1.out ?_
            simp only [Act.put, List.setIfInBounds_toArray, List.set_cons_zero, List.set_cons_succ]
            go_big_quiet_on)
         | (refine lx_idx (.tmp 22) (.const (.int .i64 0)) rfl s 0 rfl rfl hlt ?_
            simp only [Act.put, List.setIfInBounds_toArray, List.set_cons_zero, List.set_cons_succ]
            go_big_quiet_on)
         | (refine lx_call 34 _ _ rfl #[.agg (cC cS0 cS1).toArray, .int .u8 (((bts s).getD 0 0 : Nat) : Int)] (by rw [List.map_toArray]; rfl) (lx_enters Tryz.func34 (by kernel_rfl) rfl) (.bool false) F2.out ?_
            simp only [Act.put, List.setIfInBounds_toArray, List.set_cons_zero, List.set_cons_succ]
            go_big_quiet_on)
         | (go_big_quiet_op
            go_big_quiet_on)))
     refine wpQuiet_nil ?_
     intro w9 h9
     have HB2 : Hid (Below w.heap.size w w9) := HB1.out.trans ((CO.out _ h9).mono HB1.out.size)
     have HZ2 : Hid (Blk w9 g 32 tkZ) := HZ1.out.below (CO.out _ h9) HZ1.out.lt
     clear h9 hCp C0 F1 F2 CO HB1 HZ1
     go_wp2_with fail
     refine (none_any _).mono ?_
     rintro e w3 ⟨rfl, q⟩
     have HZ3 : Hid (Blk w3 g 32 tkZ) := HZ2.out.below (Hid.out q) HZ2.out.lt
     have HB3 : Hid (Below w.heap.size w w3) := HB2.out.trans ((Hid.out q).mono HB2.out.size)
     clear q HZ2 HB2
     go_wp2_with (refine st_all rfl 32 (.tmp 2) (.tmp 29) rfl g 32 tkZ (tk1 (0, [], 0)) rfl rfl HZ3.out rfl sTk (one_k _ _) ?_)
     intro w98 b98 g98
     have HBB : Hid (Below w.heap.size w w98) := HB3.out.grown g98 HB3.out.size (fun k e => by injection e with e; omega)
     have HZZ : Hid (Blk w98 g 32 (tk1 (0, [], 0))) := b98
     clear b98 g98 HZ3 HB3
     go_wp2
     refine bodyPost_ret (res_two rfl _ g 32 _ _ rfl HZZ.out Tryz.underlying32 rfl sTk) rfl ?_
     rw [<- HX.out]
     exact ⟨rfl, HBB.out⟩
 . have e : bts s = (bts s).getD 0 0 :: (bts s).getD 1 0 :: (bts s).drop 2 := by
    have e := bts_dropL s 0 hlt
    rw [List.drop_zero, bts_dropL s 1 (by omega)] at e
    exact e
   have e2 : bts (s.extract 0 2) = [(bts s).getD 0 0, (bts s).getD 1 0] := by
    rw [bts_takeL s 2 (by omega), e]
    rfl
   have x2 : min (2 : Int) (s.size : Int) = 2 := by omega
   have x3 : (2 : Int) <= (s.size : Int) := by omega
   cases ht : isTwo [(bts s).getD 0 0, (bts s).getD 1 0] with
   | true =>
     rw [e, sgA_yes ht] at HX
     generalize (bts s).getD 0 0 = c at *
     generalize (bts s).getD 1 0 = d at *
     have e3 : s.extract 0 2 = ofB [c, d] := by rw [<- e2, ofB_bts]
     have hm : [c, d] ∈ [[60, 61], [62, 61], [33, 61], [60, 62], [124, 124]] := List.contains_iff_mem.1 ht
     simp only [List.mem_cons, List.not_mem_nil, or_false, List.cons.injEq, and_true] at hm
     clear e2 e ht HE1 HH
     rcases hm with ⟨rfl, rfl⟩ | ⟨rfl, rfl⟩ | ⟨rfl, rfl⟩ | ⟨rfl, rfl⟩ | ⟨rfl, rfl⟩
     . have e4 : s.extract 0 2 = ⟨#[60, 61]⟩ := e3
       clear e3
       go_wp2_with (refine st_all rfl 32 (.tmp 2) (.tmp 20) rfl g 32 tkZ (tk1 (6, [60, 61], 0)) rfl rfl HZ1.out rfl sTk (one_k _ _) ?_)
       intro w98 b98 g98
       have HBB : Hid (Below w.heap.size w w98) := HB1.out.grown g98 HB1.out.size (fun k e => by injection e with e; omega)
       have HZZ : Hid (Blk w98 g 32 (tk1 (6, [60, 61], 0))) := b98
       clear b98 g98 HZ1 HB1
       go_wp2
       refine bodyPost_ret (res_two rfl _ g 32 _ _ rfl HZZ.out Tryz.underlying32 rfl sTk) rfl ?_
       rw [<- HX.out]
       exact ⟨rfl, HBB.out⟩
     . have e4 : s.extract 0 2 = ⟨#[62, 61]⟩ := e3
       clear e3
       go_wp2_with (refine st_all rfl 32 (.tmp 2) (.tmp 20) rfl g 32 tkZ (tk1 (6, [62, 61], 0)) rfl rfl HZ1.out rfl sTk (one_k _ _) ?_)
       intro w98 b98 g98
       have HBB : Hid (Below w.heap.size w w98) := HB1.out.grown g98 HB1.out.size (fun k e => by injection e with e; omega)
       have HZZ : Hid (Blk w98 g 32 (tk1 (6, [62, 61], 0))) := b98
       clear b98 g98 HZ1 HB1
       go_wp2
       refine bodyPost_ret (res_two rfl _ g 32 _ _ rfl HZZ.out Tryz.underlying32 rfl sTk) rfl ?_
       rw [<- HX.out]
       exact ⟨rfl, HBB.out⟩
     . have e4 : s.extract 0 2 = ⟨#[33, 61]⟩ := e3
       clear e3
       go_wp2_with (refine st_all rfl 32 (.tmp 2) (.tmp 20) rfl g 32 tkZ (tk1 (6, [33, 61], 0)) rfl rfl HZ1.out rfl sTk (one_k _ _) ?_)
       intro w98 b98 g98
       have HBB : Hid (Below w.heap.size w w98) := HB1.out.grown g98 HB1.out.size (fun k e => by injection e with e; omega)
       have HZZ : Hid (Blk w98 g 32 (tk1 (6, [33, 61], 0))) := b98
       clear b98 g98 HZ1 HB1
       go_wp2
       refine bodyPost_ret (res_two rfl _ g 32 _ _ rfl HZZ.out Tryz.underlying32 rfl sTk) rfl ?_
       rw [<- HX.out]
       exact ⟨rfl, HBB.out⟩
     . have e4 : s.extract 0 2 = ⟨#[60, 62]⟩ := e3
       clear e3
       go_wp2_with (refine st_all rfl 32 (.tmp 2) (.tmp 13) rfl g 32 tkZ (tk1 (6, [33, 61], 0)) rfl rfl HZ1.out rfl sTk (one_k _ _) ?_)
       intro w98 b98 g98
       have HBB : Hid (Below w.heap.size w w98) := HB1.out.grown g98 HB1.out.size (fun k e => by injection e with e; omega)
       have HZZ : Hid (Blk w98 g 32 (tk1 (6, [33, 61], 0))) := b98
       clear b98 g98 HZ1 HB1
       go_wp2
       refine bodyPost_ret (res_two rfl _ g 32 _ _ rfl HZZ.out Tryz.underlying32 rfl sTk) rfl ?_
       rw [<- HX.out]
       exact ⟨rfl, HBB.out⟩
     . have e4 : s.extract 0 2 = ⟨#[124, 124]⟩ := e3
       clear e3
       go_wp2_with (refine st_all rfl 32 (.tmp 2) (.tmp 20) rfl g 32 tkZ (tk1 (6, [124, 124], 0)) rfl rfl HZ1.out rfl sTk (one_k _ _) ?_)
       intro w98 b98 g98
       have HBB : Hid (Below w.heap.size w w98) := HB1.out.grown g98 HB1.out.size (fun k e => by injection e with e; omega)
       have HZZ : Hid (Blk w98 g 32 (tk1 (6, [124, 124], 0))) := b98
       clear b98 g98 HZ1 HB1
       go_wp2
       refine bodyPost_ret (res_two rfl _ g 32 _ _ rfl HZZ.out Tryz.underlying32 rfl sTk) rfl ?_
       rw [<- HX.out]
       exact ⟨rfl, HBB.out⟩
   | false =>
     have n2 : ∀ M : List UInt8, isTwo (M.map UInt8.toNat) = true -> ((s.extract 0 2).toList == M) = false := fun M hM => by
      refine two_ne e2 ?_
      intro e3
      rw [e3, hM] at ht
      cases ht
     have n3 := n2 [60, 62] rfl
     have n4 := n2 [60, 61] rfl
     have n5 := n2 [62, 61] rfl
     have n6 := n2 [33, 61] rfl
     have n7 := n2 [124, 124] rfl
     rw [e, sgA_two ht] at HX
     clear n2 e e2 ht h0 hs h1
     cases hV : isS1 ((bts s).getD 0 0) with
     | true =>
       obtain ⟨C, hC⟩ : ∃ C : World -> Prop, C = fun W => Below w1.heap.size w1 W := ⟨_, rfl⟩
       have C0 : Hid (C { w1 with drawn := w1.drawn + 1 }) := by rw [hC]; exact Below.drew (Below.refl _ _)
       have CO : Hid (∀ W, C W -> Below w1.heap.size w1 W) := fun W h => by rw [hC] at h; exact h
       have hCp : ∀ p : Prop, (∀ W, C W -> p) ↔ p := fun p => ⟨fun h => h _ C0.out, fun h _ _ => h⟩
       have F1 : Hid (∀ W, C W -> Calls Tryz.prog 56 #[] W fun e' w' => e' = .returned (.agg (cC cS0 cS1).toArray) /\ C w') := fun W h => by
        rw [hC] at h ⊢
        refine (signs_any W).mono ?_
        rintro e' w' ⟨rfl, H⟩
        exact ⟨rfl, h.trans (H.out.mono h.size)⟩
       have F2 : Hid (∀ W, C W -> Calls Tryz.prog 34 #[.agg (cC cS0 cS1).toArray, .int .u8 (((bts s).getD 0 0 : Nat) : Int)] W fun e' w' => e' = .returned (.bool true) /\ C w') := fun W h => by
        rw [hC] at h ⊢
        refine (HH.out W).mono ?_
        rintro e' w' ⟨rfl, H⟩
        rw [hV]
        exact ⟨rfl, h.trans (H.out.mono h.size)⟩
       clear hC
       rw [hV] at HX
       rw [if_pos rfl] at HX
       go_wp2_with fail
       refine wp_region_quiet (C := C) (by kernel_rfl) (by kernel_rfl) C0.out ?_
       change wpQuiet _ _ _ _ (_ :: _ :: _ :: _ :: []) _
       repeat (first
        | go_big_quiet_skip
        | (go_big_quiet_want
           first
           | (refine lx_call 56 _ _ rfl #[] (by rw [List.map_toArray]; rfl) (lx_enters Tryz.func56 (by kernel_rfl) rfl) (.agg (cC cS0 cS1).toArray) F1.out ?_
              simp only [Act.put, List.setIfInBounds_toArray, List.set_cons_zero, List.set_cons_succ]
              go_big_quiet_on)
           | (refine lx_idx (.tmp 22) (.const (.int .i64 0)) rfl s 0 rfl rfl hlt ?_
              simp only [Act.put, List.setIfInBounds_toArray, List.set_cons_zero, List.set_cons_succ]
              go_big_quiet_on)
           | (refine lx_call 34 _ _ rfl #[.agg (cC cS0 cS1).toArray, .int .u8 (((bts s).getD 0 0 : Nat) : Int)] (by rw [List.map_toArray]; rfl) (lx_enters Tryz.func34 (by kernel_rfl) rfl) (.bool true) F2.out ?_
              simp only [Act.put, List.setIfInBounds_toArray, List.set_cons_zero, List.set_cons_succ]
              go_big_quiet_on)
           | (go_big_quiet_op
              go_big_quiet_on)))
       refine wpQuiet_nil ?_
       intro w9 h9
       have HB2 : Hid (Below w.heap.size w w9) := HB1.out.trans ((CO.out _ h9).mono HB1.out.size)
       have HZ2 : Hid (Blk w9 g 32 tkZ) := HZ1.out.below (CO.out _ h9) HZ1.out.lt
       clear h9 hCp C0 F1 F2 CO HB1 HZ1
       go_wp2_with (refine st_all rfl 32 (.tmp 2) (.tmp 27) rfl g 32 tkZ (tk1 (6, [(bts s).getD 0 0], 0)) rfl (by unfold tk1; rw [<- HE1.out]; rfl) HZ2.out rfl sTk (one_k _ _) ?_)
       intro w98 b98 g98
       have HBB : Hid (Below w.heap.size w w98) := HB2.out.grown g98 HB2.out.size (fun k e => by injection e with e; omega)
       have HZZ : Hid (Blk w98 g 32 (tk1 (6, [(bts s).getD 0 0], 0))) := b98
       clear b98 g98 HZ2 HB2
       go_wp2
       refine bodyPost_ret (res_two rfl _ g 32 _ _ rfl HZZ.out Tryz.underlying32 rfl sTk) rfl ?_
       rw [<- HX.out]
       exact ⟨rfl, HBB.out⟩
     | false =>
       obtain ⟨C, hC⟩ : ∃ C : World -> Prop, C = fun W => Below w1.heap.size w1 W := ⟨_, rfl⟩
       have C0 : Hid (C { w1 with drawn := w1.drawn + 1 }) := by rw [hC]; exact Below.drew (Below.refl _ _)
       have CO : Hid (∀ W, C W -> Below w1.heap.size w1 W) := fun W h => by rw [hC] at h; exact h
       have hCp : ∀ p : Prop, (∀ W, C W -> p) ↔ p := fun p => ⟨fun h => h _ C0.out, fun h _ _ => h⟩
       have F1 : Hid (∀ W, C W -> Calls Tryz.prog 56 #[] W fun e' w' => e' = .returned (.agg (cC cS0 cS1).toArray) /\ C w') := fun W h => by
        rw [hC] at h ⊢
        refine (signs_any W).mono ?_
        rintro e' w' ⟨rfl, H⟩
        exact ⟨rfl, h.trans (H.out.mono h.size)⟩
       have F2 : Hid (∀ W, C W -> Calls Tryz.prog 34 #[.agg (cC cS0 cS1).toArray, .int .u8 (((bts s).getD 0 0 : Nat) : Int)] W fun e' w' => e' = .returned (.bool false) /\ C w') := fun W h => by
        rw [hC] at h ⊢
        refine (HH.out W).mono ?_
        rintro e' w' ⟨rfl, H⟩
        rw [hV]
        exact ⟨rfl, h.trans (H.out.mono h.size)⟩
       clear hC
       rw [hV] at HX
       rw [if_neg (by decide)] at HX
       go_wp2_with fail
       refine wp_region_quiet (C := C) (by kernel_rfl) (by kernel_rfl) C0.out ?_
       change wpQuiet _ _ _ _ (_ :: _ :: _ :: _ :: []) _
       repeat (first
        | go_big_quiet_skip
        | (go_big_quiet_want
           first
           | (refine lx_call 56 _ _ rfl #[] (by rw [List.map_toArray]; rfl) (lx_enters Tryz.func56 (by kernel_rfl) rfl) (.agg (cC cS0 cS1).toArray) F1.out ?_
              simp only [Act.put, List.setIfInBounds_toArray, List.set_cons_zero, List.set_cons_succ]
              go_big_quiet_on)
           | (refine lx_idx (.tmp 22) (.const (.int .i64 0)) rfl s 0 rfl rfl hlt ?_
              simp only [Act.put, List.setIfInBounds_toArray, List.set_cons_zero, List.set_cons_succ]
              go_big_quiet_on)
           | (refine lx_call 34 _ _ rfl #[.agg (cC cS0 cS1).toArray, .int .u8 (((bts s).getD 0 0 : Nat) : Int)] (by rw [List.map_toArray]; rfl) (lx_enters Tryz.func34 (by kernel_rfl) rfl) (.bool false) F2.out ?_
              simp only [Act.put, List.setIfInBounds_toArray, List.set_cons_zero, List.set_cons_succ]
              go_big_quiet_on)
           | (go_big_quiet_op
              go_big_quiet_on)))
       refine wpQuiet_nil ?_
       intro w9 h9
       have HB2 : Hid (Below w.heap.size w w9) := HB1.out.trans ((CO.out _ h9).mono HB1.out.size)
       have HZ2 : Hid (Blk w9 g 32 tkZ) := HZ1.out.below (CO.out _ h9) HZ1.out.lt
       clear h9 hCp C0 F1 F2 CO HB1 HZ1
       go_wp2_with fail
       refine (none_any _).mono ?_
       rintro e w3 ⟨rfl, q⟩
       have HZ3 : Hid (Blk w3 g 32 tkZ) := HZ2.out.below (Hid.out q) HZ2.out.lt
       have HB3 : Hid (Below w.heap.size w w3) := HB2.out.trans ((Hid.out q).mono HB2.out.size)
       clear q HZ2 HB2
       go_wp2_with (refine st_all rfl 32 (.tmp 2) (.tmp 29) rfl g 32 tkZ (tk1 (0, [], 0)) rfl rfl HZ3.out rfl sTk (one_k _ _) ?_)
       intro w98 b98 g98
       have HBB : Hid (Below w.heap.size w w98) := HB3.out.grown g98 HB3.out.size (fun k e => by injection e with e; omega)
       have HZZ : Hid (Blk w98 g 32 (tk1 (0, [], 0))) := b98
       clear b98 g98 HZ3 HB3
       go_wp2
       refine bodyPost_ret (res_two rfl _ g 32 _ _ rfl HZZ.out Tryz.underlying32 rfl sTk) rfl ?_
       rw [<- HX.out]
       exact ⟨rfl, HBB.out⟩
end Go.Proofs.YtpfiejmhnkcjbaaGreatDoor
