import Derived.Test.YtpfiejmhnkcjbaaGreatDoorHG11x
namespace Go.Proofs.YtpfiejmhnkcjbaaGreatDoor
set_option maxHeartbeats 8000000
set_option maxRecDepth 8000
open Go.RowKit Lx
set_option linter.unusedVariables false
set_option linter.unusedSimpArgs false
theorem sgn_oct (r : List Nat) : bts (ofB (sgn r)) = sgn r := by
 unfold sgn
 cases h : signs.find? (fun s => s.isPrefixOf r) with
 | none => rfl
 | some s => exact signs_oct s (List.mem_of_find?_eq_some h)
theorem rlex_any (tx nu : List Nat -> Bool) (htx : TxC tx) (hnu : NuC nu) (s : ByteArray) (hs : s.size <= 4096) (w : World) :
 Calls Tryz.prog 10 #[.string s] w fun e w' => LexA w tx nu (bts s) e w' /\ Hid (Below w.heap.size w w') := by
 have HTX : Hid (TxC tx) := htx
 have HNU : Hid (NuC nu) := hnu
 have hs4 : ¬ (s.size : Int) > 4096 := by omega
 clear htx hnu
 go_enter Tryz.func10, Tryz.ntmps10
 go_wp2_with fail
 go_loopw [5, 6] (fun v iv wr => ∃ (i : Nat) (L : List Tk), i <= s.size /\ iv = .int .i64 (i : Int) /\ Hid (TkR w.heap.size wr v L /\ L.length <= i /\ LexU tx nu (bts s) L i /\ Below w.heap.size w wr)) (fun _ iv _ => s.size - (intOf iv).toNat)
 case atStart => exact ⟨0, [], Nat.zero_le _, rfl, ⟨rfl, .inl ⟨rfl, rfl⟩⟩, Nat.le_refl _, LexU.zero _ _ _, Below.refl _ _⟩
 case round =>
  obtain ⟨i, L, hi, rfl, H⟩ := hrel
  have HT : Hid (TkR w.heap.size wr u5 L) := H.out.1
  have hLi : L.length <= i := H.out.2.1
  have HU : Hid (LexU tx nu (bts s) L i) := H.out.2.2.1
  have HB : Hid (Below w.heap.size w wr) := H.out.2.2.2
  obtain ⟨va, vc, rfl⟩ := HT.out.slice
  clear H
  by_cases hlt : i < s.size
  . have x1' : (i : Int) < (s.size : Int) := by omega
    have hix := idxL s i hlt wr
    have hdr := drop_at s hlt
    have hne : (bts s).drop i ≠ [] := by rw [hdr]; exact List.cons_ne_nil _ _
    have hoc := oct_getD s i
    have e1 : IntKind.i64.wrap ((i : Int) + 1) = (i : Int) + 1 := by rw [IntKind.wrap_i64]; omega
    generalize (bts s).getD i 0 = c at *
    cases hbl : isBl c with
    | true =>
      as_aux_lemma =>
       have HU2 : Hid (LexU tx nu (bts s) L (i + 1)) := HU.out.skip hne (by rw [hdr]; exact st_blank hbl)
       have h4 : c = 32 ∨ c = 9 ∨ c = 10 ∨ c = 13 := by unfold isBl at hbl; simpa [or_assoc] using hbl
       clear HU hbl hdr hne hoc HTX HNU
       rcases h4 with rfl | rfl | rfl | rfl
       . go_wp2
         go_roundw
         case rel => exact ⟨i + 1, L, by omega, by go_num, HT.out, by omega, HU2.out, HB.out⟩
         case measure => simp [intOf]; omega
       . go_wp2
         go_roundw
         case rel => exact ⟨i + 1, L, by omega, by go_num, HT.out, by omega, HU2.out, HB.out⟩
         case measure => simp [intOf]; omega
       . go_wp2
         go_roundw
         case rel => exact ⟨i + 1, L, by omega, by go_num, HT.out, by omega, HU2.out, HB.out⟩
         case measure => simp [intOf]; omega
       . go_wp2
         go_roundw
         case rel => exact ⟨i + 1, L, by omega, by go_num, HT.out, by omega, HU2.out, HB.out⟩
         case measure => simp [intOf]; omega
    | false =>
      have hb4 : ¬ c = 32 /\ ¬ c = 9 /\ ¬ c = 10 /\ ¬ c = 13 := by unfold isBl at hbl; simpa [and_assoc] using hbl
      have n32 : ((c : Int) == 32) = false := beq_eq_false_iff_ne.2 (by omega)
      have n9 : ((c : Int) == 9) = false := beq_eq_false_iff_ne.2 (by omega)
      have n10 : ((c : Int) == 10) = false := beq_eq_false_iff_ne.2 (by omega)
      have n13 : ((c : Int) == 13) = false := beq_eq_false_iff_ne.2 (by omega)
      clear hb4
      have KL := letter_any c wr
      have KD := digit_any c wr
      by_cases h45 : c = 45
      . as_aux_lemma =>
         subst h45
         rw [show isLt 45 = false from rfl] at KL
         rw [show isDg 45 = false from rfl] at KD
         clear n32 n9 n10 n13
         by_cases x3 : i + 1 < s.size
         . have x3' : (i : Int) + 1 < (s.size : Int) := by omega
           have hix3 := idxL s (i + 1) x3 wr
           rw [show ((i + 1 : Nat) : Int) = (i : Int) + 1 by omega] at hix3
           have hdr3 := drop_at s x3
           by_cases hd : (bts s).getD (i + 1) 0 = 45
           . rw [hd] at hix3 hdr3
             obtain ⟨T, hTT⟩ : ∃ T, (((bts s).drop i).takeWhile (· != 10)).length = T := ⟨_, rfl⟩
             have hTl : i + T <= s.size := by
              have := tw_le (· != 10) ((bts s).drop i)
              rw [hTT, List.length_drop, bts_len] at this
              omega
             have hT1 : 1 <= T := by
              rw [<- hTT, hdr]
              exact tw_pos (by decide)
             have HTA : Hid (∀ m, m <= T -> (m < T ↔ i + m < s.size /\ ¬ (bts s).getD (i + m) 0 = 10)) := fun m hm => by
              have := tw_at (f := fun x => x != 10) ((bts s).drop i) m (by rw [hTT]; exact hm)
              rw [hTT] at this
              rw [this, at_drop]
              constructor
              . rintro ⟨c, h1, h2⟩
                have := (List.getElem?_eq_some_iff.1 h1).1
                rw [bts_len] at this
                exact ⟨this, by rw [getD_some h1]; simpa using h2⟩
              . rintro ⟨h1, h2⟩
                exact ⟨_, lt_some (by rw [bts_len]; exact h1), by simpa using h2⟩
             have HU2 : Hid (LexU tx nu (bts s) L (i + T)) := HU.out.skip hne (by rw [<- hTT, hdr]; exact st_rem (by rw [hdr3]; rfl))
             clear HU hTT hdr hdr3 hne hoc HTX HNU KL KD hd hbl e1
             go_wp2_with fail
             go_loopw [6] (fun iv w5 => ∃ m : Nat, m <= T /\ iv = .int .i64 ((i + m : Nat) : Int) /\ w5 = wr) (fun iv _ => s.size - (intOf iv).toNat)
             case atStart => exact ⟨0, Nat.zero_le _, by simp, rfl⟩
             case round =>
              obtain ⟨m, hm, rfl, rfl⟩ := hrel
              have hT := HTA.out m hm
              clear hix hix3
              obtain ⟨j, hj⟩ : ∃ j, i + m = j := ⟨_, rfl⟩
              rw [hj] at hT ⊢
              have e1 : IntKind.i64.wrap ((j : Int) + 1) = (j : Int) + 1 := by rw [IntKind.wrap_i64]; omega
              by_cases hlt4 : m < T
              . obtain ⟨h1, h2⟩ := hT.1 hlt4
                have hlt' : (j : Int) < (s.size : Int) := by omega
                have hix := idxL s j h1 wr
                have h2' : ¬ (((bts s).getD j 0 : Nat) : Int) = 10 := by omega
                generalize (bts s).getD j 0 = c4 at *
                clear hT h2
                go_wp2
                go_roundw
                case rel => exact ⟨m + 1, by omega, by rw [<- hj]; go_num, by first | rfl | trivial⟩
                case measure => simp [intOf]; omega
              . obtain rfl : m = T := by omega
                have hno : ¬ (j < s.size /\ ¬ (bts s).getD j 0 = 10) := fun h => hlt4 (hT.2 h)
                rw [hj] at HU2 hTl
                clear hT hlt4 HTA hm
                by_cases h1 : j < s.size
                . have hc10 : (bts s).getD j 0 = 10 := Classical.byContradiction fun h => hno ⟨h1, h⟩
                  have hix := idxL s j h1 wr
                  rw [hc10] at hix
                  have h1' : (j : Int) < (s.size : Int) := by omega
                  clear hno hc10
                  go_wp2
                  go_roundw
                  case rel => exact ⟨j, L, by omega, by go_num, HT.out, by omega, HU2.out, HB.out⟩
                  case measure => simp [intOf]; omega
                . have h1' : ¬ (j : Int) < (s.size : Int) := by omega
                  clear hno
                  go_wp2
                  go_roundw
                  case rel => exact ⟨j, L, by omega, by go_num, HT.out, by omega, HU2.out, HB.out⟩
                  case measure => simp [intOf]; omega
           . have hd' : ((((bts s).getD (i + 1) 0 : Nat) : Int) == 45) = false := beq_eq_false_iff_ne.2 (by omega)
             have hq : ¬ ((bts s).drop (i + 1)).head? = some 45 := by rw [hdr3]; simpa using hd
             generalize (bts s).getD (i + 1) 0 = c3 at *
             clear hdr3 hd
             have hst : Lx.step tx nu ((bts s).drop i) = if sgn ((bts s).drop i) = [] then .bad else .tok 6 (told (sgn ((bts s).drop i))) (sgn ((bts s).drop i)).length := by
              rw [hdr]
              exact st_sgn rfl (fun e => hq e.2) rfl (by decide) rfl (by decide) (by decide)
             have hsp := (sgn_pre ((bts s).drop i)).length_le
             rw [List.length_drop, bts_len] at hsp
             have hso := sgn_oct ((bts s).drop i)
             have KS := sign_any s i (by omega) (by omega) wr
             generalize sgn ((bts s).drop i) = X at *
             by_cases hX : X = []
             . subst hX
               have HBD : Hid ((lexR tx nu (bts s) 0).2 = some i) := HU.out.bad hne (by rw [hst]; rfl)
               rw [show ofB [] = (⟨#[]⟩ : ByteArray) from rfl] at KS
               clear HU hdr hne hoc HTX HNU hst hsp hso
               go_wp2_with fail
               refine KL.mono ?_
               clear KL
               rintro e w' ⟨rfl, hw⟩
               subst w'
               go_wp2_with fail
               refine KD.mono ?_
               clear KD
               rintro e w' ⟨rfl, hw⟩
               subst w'
               go_wp2_with fail
               refine KS.mono ?_
               clear KS
               rintro e w2 ⟨rfl, H2⟩
               have HT9 : Hid (TkR w.heap.size w2 (.slice va L.length vc) L) := HT.out.below H2.out
               have HB9 : Hid (Below w.heap.size w w2) := HB.out.trans (H2.out.mono HB.out.size)
               clear HT HB H2
               have HT : Hid (TkR w.heap.size w2 (.slice va L.length vc) L) := HT9
               have HB : Hid (Below w.heap.size w w2) := HB9
               clear HT9 HB9
               go_wp2
               go_ret3
               refine ⟨?_, HB.out⟩
               unfold LexA
               rw [HBD.out]
               all_goals rfl
             . by_cases hX2 : X = [60, 62]
               . subst hX2
                 have HU2 : Hid (LexU tx nu (bts s) (L ++ [(6, [33, 61], i)]) (i + 2)) := HU.out.tok hne (by rw [hst]; rfl)
                 rw [show ofB [60, 62] = (⟨#[60, 62]⟩ : ByteArray) from rfl] at KS
                 have hsp : i + 2 <= s.size := by simp at hsp; omega
                 have e2 : IntKind.i64.wrap ((i : Int) + 2) = (i : Int) + 2 := by rw [IntKind.wrap_i64]; omega
                 clear HU hdr hne hoc HTX HNU hst hso hX
                 go_wp2_with fail
                 refine KL.mono ?_
                 clear KL
                 rintro e w' ⟨rfl, hw⟩
                 subst w'
                 go_wp2_with fail
                 refine KD.mono ?_
                 clear KD
                 rintro e w' ⟨rfl, hw⟩
                 subst w'
                 go_wp2_with fail
                 refine KS.mono ?_
                 clear KS
                 rintro e w2 ⟨rfl, H2⟩
                 have HT9 : Hid (TkR w.heap.size w2 (.slice va L.length vc) L) := HT.out.below H2.out
                 have HB9 : Hid (Below w.heap.size w w2) := HB.out.trans (H2.out.mono HB.out.size)
                 clear HT HB H2
                 have HT : Hid (TkR w.heap.size w2 (.slice va L.length vc) L) := HT9
                 have HB : Hid (Below w.heap.size w w2) := HB9
                 clear HT9 HB9
                 go_wp2_with (refine wl_app rfl (.tmp 39) (.tmp 43) 22 32 3 rfl (by decide) Tryz.underlying22 iTk (.slice va L.length vc) L.length (tkC L) rfl w.heap.size (Nat.le_trans HB.out.size (by simp)) (HT.out.below (Below.alloc (Below.refl _ _) (Nat.le_refl _) _)) (some ⟨w2.heap.size, 0, none⟩) 1 1 rfl (by simp) [.int .i64 6, .string ⟨#[33, 61]⟩, .int .i64 (i : Int)] rfl (cells_new w2 _ _) (one_tk _ _ _) (by omega) ?_)
                 intro v6 w6 hr6 hg6 _
                 have HR : Hid (TkR w.heap.size w6 v6 (L ++ [(6, [33, 61], i)])) := by
                  show w6.ownsRow w.heap.size 32 3 v6 (L ++ [(6, [33, 61], i)]).length (tkC (L ++ [(6, [33, 61], i)]))
                  rw [<- tkC_app, List.length_append]
                  exact hr6
                 have HB6 : Hid (Below w.heap.size w w6) := app_below HB.out HT.out HB.out.size _ hg6
                 clear hr6 hg6 HT HB
                 go_wp2
                 go_roundw
                 case rel => exact ⟨i + 2, L ++ [(6, [33, 61], i)], by omega, by go_num, HR.out, by simp; omega, HU2.out, HB6.out⟩
                 case measure => simp [intOf]; omega
               . have HU2 : Hid (LexU tx nu (bts s) (L ++ [(6, X, i)]) (i + X.length)) := by
                  have := HU.out.tok hne (by rw [hst, if_neg hX])
                  rw [show told X = X by unfold told; rw [if_neg hX2]] at this
                  exact this
                 have hn0 : 1 <= X.length := by
                  cases X with
                  | nil => exact absurd rfl hX
                  | cons a b => simp
                 obtain ⟨x, hx⟩ : ∃ x, ofB X = x := ⟨_, rfl⟩
                 have hxs : X.length = x.size := by rw [<- hx, ofB_size']
                 have hx1 : (x.toList == (⟨#[]⟩ : ByteArray).toList) = false := by
                  rw [toL_eq]
                  exact decide_eq_false fun e => hX (by rw [<- hso, hx, e]; rfl)
                 have hx2 : (x.toList == (⟨#[60, 62]⟩ : ByteArray).toList) = false := by
                  rw [toL_eq]
                  exact decide_eq_false fun e => hX2 (by rw [<- hso, hx, e]; rfl)
                 have hx0 : x.toList.isEmpty = false := by
                  have := hx1
                  rw [show (⟨#[]⟩ : ByteArray).toList = [] by simp] at this
                  rw [<- this]
                  cases x.toList <;> rfl
                 have hx3 : (x.toList == [60, 62]) = false := by
                  have := hx2
                  rw [show (⟨#[60, 62]⟩ : ByteArray).toList = [60, 62] by simp] at this
                  exact this
                 rw [hx] at KS hso
                 rw [hxs] at hsp hn0 HU2
                 rw [<- hso] at HU2
                 have hxi : i + x.size <= s.size := by omega
                 have e2 : IntKind.i64.wrap ((i : Int) + (x.size : Int)) = (i : Int) + (x.size : Int) := by rw [IntKind.wrap_i64]; omega
                 clear HU hdr hne hoc HTX HNU hst hso hX hX2 hsp hx hxs
                 go_wp2_with fail
                 refine KL.mono ?_
                 clear KL
                 rintro e w' ⟨rfl, hw⟩
                 subst w'
                 go_wp2_with fail
                 refine KD.mono ?_
                 clear KD
                 rintro e w' ⟨rfl, hw⟩
                 subst w'
                 go_wp2_with fail
                 refine KS.mono ?_
                 clear KS
                 rintro e w2 ⟨rfl, H2⟩
                 have HT9 : Hid (TkR w.heap.size w2 (.slice va L.length vc) L) := HT.out.below H2.out
                 have HB9 : Hid (Below w.heap.size w w2) := HB.out.trans (H2.out.mono HB.out.size)
                 clear HT HB H2
                 have HT : Hid (TkR w.heap.size w2 (.slice va L.length vc) L) := HT9
                 have HB : Hid (Below w.heap.size w w2) := HB9
                 clear HT9 HB9
                 go_wp2_with (refine wl_app rfl (.tmp 39) (.tmp 43) 22 32 3 rfl (by decide) Tryz.underlying22 iTk (.slice va L.length vc) L.length (tkC L) rfl w.heap.size (Nat.le_trans HB.out.size (by simp)) (HT.out.below (Below.alloc (Below.refl _ _) (Nat.le_refl _) _)) (some ⟨w2.heap.size, 0, none⟩) 1 1 rfl (by simp) [.int .i64 6, .string x, .int .i64 (i : Int)] rfl (cells_new w2 _ _) (one_tk _ _ _) (by omega) ?_)
                 intro v6 w6 hr6 hg6 _
                 have HR : Hid (TkR w.heap.size w6 v6 (L ++ [(6, bts x, i)])) := by
                  show w6.ownsRow w.heap.size 32 3 v6 (L ++ [(6, bts x, i)]).length (tkC (L ++ [(6, bts x, i)]))
                  rw [<- tkC_app, List.length_append, ofB_bts]
                  exact hr6
                 have HB6 : Hid (Below w.heap.size w w6) := app_below HB.out HT.out HB.out.size _ hg6
                 clear hr6 hg6 HT HB
                 go_wp2
                 go_roundw
                 case rel => exact ⟨i + x.size, L ++ [(6, bts x, i)], by omega, by go_num, HR.out, by simp; omega, HU2.out, HB6.out⟩
                 case measure => simp [intOf]; omega
         . have x3' : ¬ (i : Int) + 1 < (s.size : Int) := by omega
           have hq : ¬ ((bts s).drop (i + 1)).head? = some 45 := by rw [List.drop_of_length_le (by rw [bts_len]; omega)]; simp
           have hst : Lx.step tx nu ((bts s).drop i) = if sgn ((bts s).drop i) = [] then .bad else .tok 6 (told (sgn ((bts s).drop i))) (sgn ((bts s).drop i)).length := by
            rw [hdr]
            exact st_sgn rfl (fun e => hq e.2) rfl (by decide) rfl (by decide) (by decide)
           have hsp := (sgn_pre ((bts s).drop i)).length_le
           rw [List.length_drop, bts_len] at hsp
           have hso := sgn_oct ((bts s).drop i)
           have KS := sign_any s i (by omega) (by omega) wr
           generalize sgn ((bts s).drop i) = X at *
           by_cases hX : X = []
           . subst hX
             have HBD : Hid ((lexR tx nu (bts s) 0).2 = some i) := HU.out.bad hne (by rw [hst]; rfl)
             rw [show ofB [] = (⟨#[]⟩ : ByteArray) from rfl] at KS
             clear HU hdr hne hoc HTX HNU hst hsp hso
             go_wp2_with fail
             refine KL.mono ?_
             clear KL
             rintro e w' ⟨rfl, hw⟩
             subst w'
             go_wp2_with fail
             refine KD.mono ?_
             clear KD
             rintro e w' ⟨rfl, hw⟩
             subst w'
             go_wp2_with fail
             refine KS.mono ?_
             clear KS
             rintro e w2 ⟨rfl, H2⟩
             have HT9 : Hid (TkR w.heap.size w2 (.slice va L.length vc) L) := HT.out.below H2.out
             have HB9 : Hid (Below w.heap.size w w2) := HB.out.trans (H2.out.mono HB.out.size)
             clear HT HB H2
             have HT : Hid (TkR w.heap.size w2 (.slice va L.length vc) L) := HT9
             have HB : Hid (Below w.heap.size w w2) := HB9
             clear HT9 HB9
             go_wp2
             go_ret3
             refine ⟨?_, HB.out⟩
             unfold LexA
             rw [HBD.out]
             all_goals rfl
           . by_cases hX2 : X = [60, 62]
             . subst hX2
               have HU2 : Hid (LexU tx nu (bts s) (L ++ [(6, [33, 61], i)]) (i + 2)) := HU.out.tok hne (by rw [hst]; rfl)
               rw [show ofB [60, 62] = (⟨#[60, 62]⟩ : ByteArray) from rfl] at KS
               have hsp : i + 2 <= s.size := by simp at hsp; omega
               have e2 : IntKind.i64.wrap ((i : Int) + 2) = (i : Int) + 2 := by rw [IntKind.wrap_i64]; omega
               clear HU hdr hne hoc HTX HNU hst hso hX
               exact absurd hsp (by omega)
             . have HU2 : Hid (LexU tx nu (bts s) (L ++ [(6, X, i)]) (i + X.length)) := by
                have := HU.out.tok hne (by rw [hst, if_neg hX])
                rw [show told X = X by unfold told; rw [if_neg hX2]] at this
                exact this
               have hn0 : 1 <= X.length := by
                cases X with
                | nil => exact absurd rfl hX
                | cons a b => simp
               obtain ⟨x, hx⟩ : ∃ x, ofB X = x := ⟨_, rfl⟩
               have hxs : X.length = x.size := by rw [<- hx, ofB_size']
               have hx1 : (x.toList == (⟨#[]⟩ : ByteArray).toList) = false := by
                rw [toL_eq]
                exact decide_eq_false fun e => hX (by rw [<- hso, hx, e]; rfl)
               have hx2 : (x.toList == (⟨#[60, 62]⟩ : ByteArray).toList) = false := by
                rw [toL_eq]
                exact decide_eq_false fun e => hX2 (by rw [<- hso, hx, e]; rfl)
               have hx0 : x.toList.isEmpty = false := by
                have := hx1
                rw [show (⟨#[]⟩ : ByteArray).toList = [] by simp] at this
                rw [<- this]
                cases x.toList <;> rfl
               have hx3 : (x.toList == [60, 62]) = false := by
                have := hx2
                rw [show (⟨#[60, 62]⟩ : ByteArray).toList = [60, 62] by simp] at this
                exact this
               rw [hx] at KS hso
               rw [hxs] at hsp hn0 HU2
               rw [<- hso] at HU2
               have hxi : i + x.size <= s.size := by omega
               have e2 : IntKind.i64.wrap ((i : Int) + (x.size : Int)) = (i : Int) + (x.size : Int) := by rw [IntKind.wrap_i64]; omega
               clear HU hdr hne hoc HTX HNU hst hso hX hX2 hsp hx hxs
               go_wp2_with fail
               refine KL.mono ?_
               clear KL
               rintro e w' ⟨rfl, hw⟩
               subst w'
               go_wp2_with fail
               refine KD.mono ?_
               clear KD
               rintro e w' ⟨rfl, hw⟩
               subst w'
               go_wp2_with fail
               refine KS.mono ?_
               clear KS
               rintro e w2 ⟨rfl, H2⟩
               have HT9 : Hid (TkR w.heap.size w2 (.slice va L.length vc) L) := HT.out.below H2.out
               have HB9 : Hid (Below w.heap.size w w2) := HB.out.trans (H2.out.mono HB.out.size)
               clear HT HB H2
               have HT : Hid (TkR w.heap.size w2 (.slice va L.length vc) L) := HT9
               have HB : Hid (Below w.heap.size w w2) := HB9
               clear HT9 HB9
               go_wp2_with (refine wl_app rfl (.tmp 39) (.tmp 43) 22 32 3 rfl (by decide) Tryz.underlying22 iTk (.slice va L.length vc) L.length (tkC L) rfl w.heap.size (Nat.le_trans HB.out.size (by simp)) (HT.out.below (Below.alloc (Below.refl _ _) (Nat.le_refl _) _)) (some ⟨w2.heap.size, 0, none⟩) 1 1 rfl (by simp) [.int .i64 6, .string x, .int .i64 (i : Int)] rfl (cells_new w2 _ _) (one_tk _ _ _) (by omega) ?_)
               intro v6 w6 hr6 hg6 _
               have HR : Hid (TkR w.heap.size w6 v6 (L ++ [(6, bts x, i)])) := by
                show w6.ownsRow w.heap.size 32 3 v6 (L ++ [(6, bts x, i)]).length (tkC (L ++ [(6, bts x, i)]))
                rw [<- tkC_app, List.length_append, ofB_bts]
                exact hr6
               have HB6 : Hid (Below w.heap.size w w6) := app_below HB.out HT.out HB.out.size _ hg6
               clear hr6 hg6 HT HB
               go_wp2
               go_roundw
               case rel => exact ⟨i + x.size, L ++ [(6, bts x, i)], by omega, by go_num, HR.out, by simp; omega, HU2.out, HB6.out⟩
               case measure => simp [intOf]; omega
      . have n45 : ((c : Int) == 45) = false := beq_eq_false_iff_ne.2 (by omega)
        cases hl : isLt c with
        | true =>
          as_aux_lemma =>
           rw [hl] at KL
           obtain ⟨T, hTT⟩ : ∃ T, (((bts s).drop i).takeWhile isNm).length = T := ⟨_, rfl⟩
           have hTl : i + T <= s.size := by
            have := tw_le isNm ((bts s).drop i)
            rw [hTT, List.length_drop, bts_len] at this
            omega
           have hT1 : 1 <= T := by
            rw [<- hTT, hdr]
            exact tw_pos (by unfold isNm; rw [hl]; rfl)
           have hTk : ((bts s).drop i).takeWhile isNm = bts (s.extract i (i + T)) := by
            have := List.takeWhile_prefix (p := isNm) (l := (bts s).drop i)
            rw [List.prefix_iff_eq_take, hTT] at this
            rw [this, bts_midL s i T hTl]
           have HTA : Hid (∀ m, m <= T -> (m < T ↔ i + m < s.size /\ isNm ((bts s).getD (i + m) 0) = true)) := fun m hm => by
            have := tw_at (f := isNm) ((bts s).drop i) m (by rw [hTT]; exact hm)
            rw [hTT] at this
            rw [this, at_drop]
            constructor
            . rintro ⟨c, h1, h2⟩
              have := (List.getElem?_eq_some_iff.1 h1).1
              rw [bts_len] at this
              exact ⟨this, by rw [getD_some h1]; exact h2⟩
            . rintro ⟨h1, h2⟩
              exact ⟨_, lt_some (by rw [bts_len]; exact h1), h2⟩
           have HST : Hid (Lx.step tx nu ((bts s).drop i) = if isW (sml (bts (s.extract i (i + T)))) then .tok 2 (sml (bts (s.extract i (i + T)))) T else .tok 1 (bts (s.extract i (i + T))) T) := by
            show _ = _
            rw [hdr, st_word hbl hl, <- hdr, hTT, hTk]
           have HNE : Hid ((bts s).drop i ≠ []) := hne
           have HSO : Hid (bts (ofB (sml (bts (s.extract i (i + T))))) = sml (bts (s.extract i (i + T)))) := bts_ofB _ (sml_oct (bts_oct _))
           clear hTT hTk hdr hne hoc HTX HNU KD hbl hl e1
           go_wp2_with fail
           refine KL.mono ?_
           clear KL
           rintro e w' ⟨rfl, hw⟩
           subst w'
           clear n32 n9 n10 n13 n45
           go_wp2_with fail
           go_loopw [8] (fun iv w5 => ∃ m : Nat, m <= T /\ iv = .int .i64 ((i + m : Nat) : Int) /\ w5 = wr) (fun iv _ => s.size - (intOf iv).toNat)
           case atStart => exact ⟨0, Nat.zero_le _, by simp, rfl⟩
           case round =>
            obtain ⟨m, hm, rfl, rfl⟩ := hrel
            have hT := HTA.out m hm
            clear hix
            obtain ⟨j, hj⟩ : ∃ j, i + m = j := ⟨_, rfl⟩
            rw [hj] at hT ⊢
            have e1 : IntKind.i64.wrap ((j : Int) + 1) = (j : Int) + 1 := by rw [IntKind.wrap_i64]; omega
            by_cases hlt4 : m < T
            . obtain ⟨h1, h2⟩ := hT.1 hlt4
              have hlt' : (j : Int) < (s.size : Int) := by omega
              have hix := idxL s j h1 wr
              have K1 := letter_any ((bts s).getD j 0) wr
              have K2 := digit_any ((bts s).getD j 0) wr
              generalize (bts s).getD j 0 = c4 at *
              cases hl4 : isLt c4 with
              | true =>
                rw [hl4] at K1
                clear hT h2 K2 hl4
                go_wp2_with fail
                refine K1.mono ?_
                clear K1
                rintro e w' ⟨rfl, hw⟩
                subst w'
                go_wp2
                go_roundw
                case rel => exact ⟨m + 1, by omega, by rw [<- hj]; go_num, by first | rfl | trivial⟩
                case measure => simp [intOf]; omega
              | false =>
                rw [hl4] at K1
                rw [show isDg c4 = true by unfold isNm at h2; rw [hl4] at h2; exact h2] at K2
                clear hT h2 hl4
                go_wp2_with fail
                refine K1.mono ?_
                clear K1
                rintro e w' ⟨rfl, hw⟩
                subst w'
                go_wp2_with fail
                refine K2.mono ?_
                clear K2
                rintro e w' ⟨rfl, hw⟩
                subst w'
                go_wp2
                go_roundw
                case rel => exact ⟨m + 1, by omega, by rw [<- hj]; go_num, by first | rfl | trivial⟩
                case measure => simp [intOf]; omega
            . obtain rfl : m = T := by omega
              have hno : ¬ (j < s.size /\ isNm ((bts s).getD j 0) = true) := fun h => hlt4 (hT.2 h)
              rw [hj] at hTl HST HSO
              clear hT hlt4 HTA hm
              by_cases h1 : j < s.size
              . have hlt' : (j : Int) < (s.size : Int) := by omega
                have hix := idxL s j h1 wr
                have K1 := letter_any ((bts s).getD j 0) wr
                have K2 := digit_any ((bts s).getD j 0) wr
                have hnn : isNm ((bts s).getD j 0) = false := by cases hq : isNm ((bts s).getD j 0) with | false => rfl | true => exact absurd ⟨h1, hq⟩ hno
                rw [show isLt ((bts s).getD j 0) = false by unfold isNm at hnn; simp only [Bool.or_eq_false_iff] at hnn; exact hnn.1] at K1
                rw [show isDg ((bts s).getD j 0) = false by unfold isNm at hnn; simp only [Bool.or_eq_false_iff] at hnn; exact hnn.2] at K2
                generalize (bts s).getD j 0 = c4 at *
                clear hnn
                go_wp2_with fail
                refine K1.mono ?_
                clear K1
                rintro e w' ⟨rfl, hw⟩
                subst w'
                go_wp2_with fail
                refine K2.mono ?_
                clear K2
                rintro e w' ⟨rfl, hw⟩
                subst w'
                have KSM := small_any (s.extract i j) (by rw [ByteArray.size_extract]; omega) wr
                have KIS : Hid (∀ W, Calls Tryz.prog 14 #[.string (ofB (sml (bts (s.extract i j))))] W fun e w' => e = .returned (.bool (isW (sml (bts (s.extract i j))))) /\ Hid (Below W.heap.size W w')) := fun W => by
                 have := isword_any (ofB (sml (bts (s.extract i j)))) W
                 rw [HSO.out] at this
                 exact this
                have hsx : bts (ofB (sml (bts (s.extract i j)))) = sml (bts (s.extract i j)) := HSO.out
                clear HSO hno
                cases hw : isW (sml (bts (s.extract i j))) with
                | true =>
                  rw [hw] at KIS HST
                  have HU2 : Hid (LexU tx nu (bts s) (L ++ [(2, sml (bts (s.extract i j)), i)]) j) := by
                   have := HU.out.tok HNE.out HST.out
                   rw [hj] at this
                   exact this
                  clear HU HNE HST hw
                  obtain ⟨x, hx⟩ : ∃ x, ofB (sml (bts (s.extract i j))) = x := ⟨_, rfl⟩
                  rw [hx] at KIS KSM hsx
                  rw [<- hsx] at HU2
                  clear hsx hx
                  go_wp2_with fail
                  refine KSM.mono ?_
                  clear KSM
                  rintro e w2 ⟨rfl, H2⟩
                  have HT9 : Hid (TkR w.heap.size w2 (.slice va L.length vc) L) := HT.out.below H2.out
                  have HB9 : Hid (Below w.heap.size w w2) := HB.out.trans (H2.out.mono HB.out.size)
                  clear HT HB H2
                  have HT : Hid (TkR w.heap.size w2 (.slice va L.length vc) L) := HT9
                  have HB : Hid (Below w.heap.size w w2) := HB9
                  clear HT9 HB9
                  go_wp2_with fail
                  refine (KIS.out w2).mono ?_
                  clear KIS
                  rintro e w3 ⟨rfl, H2⟩
                  have HT9 : Hid (TkR w.heap.size w3 (.slice va L.length vc) L) := HT.out.below H2.out
                  have HB9 : Hid (Below w.heap.size w w3) := HB.out.trans (H2.out.mono HB.out.size)
                  clear HT HB H2
                  have HT : Hid (TkR w.heap.size w3 (.slice va L.length vc) L) := HT9
                  have HB : Hid (Below w.heap.size w w3) := HB9
                  clear HT9 HB9
                  go_wp2_with (refine wl_app rfl (.tmp 123) (.tmp 127) 22 32 3 rfl (by decide) Tryz.underlying22 iTk (.slice va L.length vc) L.length (tkC L) rfl w.heap.size (Nat.le_trans HB.out.size (by simp)) (HT.out.below (Below.alloc (Below.refl _ _) (Nat.le_refl _) _)) (some ⟨w3.heap.size, 0, none⟩) 1 1 rfl (by simp) [.int .i64 2, .string x, .int .i64 (i : Int)] rfl (cells_new w3 _ _) (one_tk _ _ _) (by omega) ?_)
                  intro v6 w6 hr6 hg6 _
                  have HR : Hid (TkR w.heap.size w6 v6 (L ++ [(2, bts x, i)])) := by
                   show w6.ownsRow w.heap.size 32 3 v6 (L ++ [(2, bts x, i)]).length (tkC (L ++ [(2, bts x, i)]))
                   rw [<- tkC_app, List.length_append, ofB_bts]
                   exact hr6
                  have HB6 : Hid (Below w.heap.size w w6) := app_below HB.out HT.out HB.out.size _ hg6
                  clear hr6 hg6 HT HB
                  go_wp2
                  go_roundw
                  case rel => exact ⟨j, L ++ [(2, bts x, i)], by omega, by go_num, HR.out, by simp; omega, HU2.out, HB6.out⟩
                  case measure => simp [intOf]; omega
                | false =>
                  rw [hw] at KIS HST
                  have HU2 : Hid (LexU tx nu (bts s) (L ++ [(1, bts (s.extract i j), i)]) j) := by
                   have := HU.out.tok HNE.out HST.out
                   rw [hj] at this
                   exact this
                  clear HU HNE HST hw
                  obtain ⟨x, hx⟩ : ∃ x, ofB (sml (bts (s.extract i j))) = x := ⟨_, rfl⟩
                  rw [hx] at KIS KSM
                  clear hsx hx
                  go_wp2_with fail
                  refine KSM.mono ?_
                  clear KSM
                  rintro e w2 ⟨rfl, H2⟩
                  have HT9 : Hid (TkR w.heap.size w2 (.slice va L.length vc) L) := HT.out.below H2.out
                  have HB9 : Hid (Below w.heap.size w w2) := HB.out.trans (H2.out.mono HB.out.size)
                  clear HT HB H2
                  have HT : Hid (TkR w.heap.size w2 (.slice va L.length vc) L) := HT9
                  have HB : Hid (Below w.heap.size w w2) := HB9
                  clear HT9 HB9
                  go_wp2_with fail
                  refine (KIS.out w2).mono ?_
                  clear KIS
                  rintro e w3 ⟨rfl, H2⟩
                  have HT9 : Hid (TkR w.heap.size w3 (.slice va L.length vc) L) := HT.out.below H2.out
                  have HB9 : Hid (Below w.heap.size w w3) := HB.out.trans (H2.out.mono HB.out.size)
                  clear HT HB H2
                  have HT : Hid (TkR w.heap.size w3 (.slice va L.length vc) L) := HT9
                  have HB : Hid (Below w.heap.size w w3) := HB9
                  clear HT9 HB9
                  go_wp2_with (refine wl_app rfl (.tmp 129) (.tmp 136) 22 32 3 rfl (by decide) Tryz.underlying22 iTk (.slice va L.length vc) L.length (tkC L) rfl w.heap.size (Nat.le_trans HB.out.size (by simp)) (HT.out.below (Below.alloc (Below.refl _ _) (Nat.le_refl _) _)) (some ⟨w3.heap.size, 0, none⟩) 1 1 rfl (by simp) [.int .i64 1, .string (s.extract i j), .int .i64 (i : Int)] rfl (cells_new w3 _ _) (one_tk _ _ _) (by omega) ?_)
                  intro v6 w6 hr6 hg6 _
                  have HR : Hid (TkR w.heap.size w6 v6 (L ++ [(1, bts (s.extract i j), i)])) := by
                   show w6.ownsRow w.heap.size 32 3 v6 (L ++ [(1, bts (s.extract i j), i)]).length (tkC (L ++ [(1, bts (s.extract i j), i)]))
                   rw [<- tkC_app, List.length_append, ofB_bts]
                   exact hr6
                  have HB6 : Hid (Below w.heap.size w w6) := app_below HB.out HT.out HB.out.size _ hg6
                  clear hr6 hg6 HT HB
                  go_wp2
                  go_roundw
                  case rel => exact ⟨j, L ++ [(1, bts (s.extract i j), i)], by omega, by go_num, HR.out, by simp; omega, HU2.out, HB6.out⟩
                  case measure => simp [intOf]; omega
              . have hlt' : ¬ (j : Int) < (s.size : Int) := by omega
                have KSM := small_any (s.extract i j) (by rw [ByteArray.size_extract]; omega) wr
                have KIS : Hid (∀ W, Calls Tryz.prog 14 #[.string (ofB (sml (bts (s.extract i j))))] W fun e w' => e = .returned (.bool (isW (sml (bts (s.extract i j))))) /\ Hid (Below W.heap.size W w')) := fun W => by
                 have := isword_any (ofB (sml (bts (s.extract i j)))) W
                 rw [HSO.out] at this
                 exact this
                have hsx : bts (ofB (sml (bts (s.extract i j)))) = sml (bts (s.extract i j)) := HSO.out
                clear HSO hno
                cases hw : isW (sml (bts (s.extract i j))) with
                | true =>
                  rw [hw] at KIS HST
                  have HU2 : Hid (LexU tx nu (bts s) (L ++ [(2, sml (bts (s.extract i j)), i)]) j) := by
                   have := HU.out.tok HNE.out HST.out
                   rw [hj] at this
                   exact this
                  clear HU HNE HST hw
                  obtain ⟨x, hx⟩ : ∃ x, ofB (sml (bts (s.extract i j))) = x := ⟨_, rfl⟩
                  rw [hx] at KIS KSM hsx
                  rw [<- hsx] at HU2
                  clear hsx hx
                  go_wp2_with fail
                  refine KSM.mono ?_
                  clear KSM
                  rintro e w2 ⟨rfl, H2⟩
                  have HT9 : Hid (TkR w.heap.size w2 (.slice va L.length vc) L) := HT.out.below H2.out
                  have HB9 : Hid (Below w.heap.size w w2) := HB.out.trans (H2.out.mono HB.out.size)
                  clear HT HB H2
                  have HT : Hid (TkR w.heap.size w2 (.slice va L.length vc) L) := HT9
                  have HB : Hid (Below w.heap.size w w2) := HB9
                  clear HT9 HB9
                  go_wp2_with fail
                  refine (KIS.out w2).mono ?_
                  clear KIS
                  rintro e w3 ⟨rfl, H2⟩
                  have HT9 : Hid (TkR w.heap.size w3 (.slice va L.length vc) L) := HT.out.below H2.out
                  have HB9 : Hid (Below w.heap.size w w3) := HB.out.trans (H2.out.mono HB.out.size)
                  clear HT HB H2
                  have HT : Hid (TkR w.heap.size w3 (.slice va L.length vc) L) := HT9
                  have HB : Hid (Below w.heap.size w w3) := HB9
                  clear HT9 HB9
                  go_wp2_with (refine wl_app rfl (.tmp 123) (.tmp 127) 22 32 3 rfl (by decide) Tryz.underlying22 iTk (.slice va L.length vc) L.length (tkC L) rfl w.heap.size (Nat.le_trans HB.out.size (by simp)) (HT.out.below (Below.alloc (Below.refl _ _) (Nat.le_refl _) _)) (some ⟨w3.heap.size, 0, none⟩) 1 1 rfl (by simp) [.int .i64 2, .string x, .int .i64 (i : Int)] rfl (cells_new w3 _ _) (one_tk _ _ _) (by omega) ?_)
                  intro v6 w6 hr6 hg6 _
                  have HR : Hid (TkR w.heap.size w6 v6 (L ++ [(2, bts x, i)])) := by
                   show w6.ownsRow w.heap.size 32 3 v6 (L ++ [(2, bts x, i)]).length (tkC (L ++ [(2, bts x, i)]))
                   rw [<- tkC_app, List.length_append, ofB_bts]
                   exact hr6
                  have HB6 : Hid (Below w.heap.size w w6) := app_below HB.out HT.out HB.out.size _ hg6
                  clear hr6 hg6 HT HB
                  go_wp2
                  go_roundw
                  case rel => exact ⟨j, L ++ [(2, bts x, i)], by omega, by go_num, HR.out, by simp; omega, HU2.out, HB6.out⟩
                  case measure => simp [intOf]; omega
                | false =>
                  rw [hw] at KIS HST
                  have HU2 : Hid (LexU tx nu (bts s) (L ++ [(1, bts (s.extract i j), i)]) j) := by
                   have := HU.out.tok HNE.out HST.out
                   rw [hj] at this
                   exact this
                  clear HU HNE HST hw
                  obtain ⟨x, hx⟩ : ∃ x, ofB (sml (bts (s.extract i j))) = x := ⟨_, rfl⟩
                  rw [hx] at KIS KSM
                  clear hsx hx
                  go_wp2_with fail
                  refine KSM.mono ?_
                  clear KSM
                  rintro e w2 ⟨rfl, H2⟩
                  have HT9 : Hid (TkR w.heap.size w2 (.slice va L.length vc) L) := HT.out.below H2.out
                  have HB9 : Hid (Below w.heap.size w w2) := HB.out.trans (H2.out.mono HB.out.size)
                  clear HT HB H2
                  have HT : Hid (TkR w.heap.size w2 (.slice va L.length vc) L) := HT9
                  have HB : Hid (Below w.heap.size w w2) := HB9
                  clear HT9 HB9
                  go_wp2_with fail
                  refine (KIS.out w2).mono ?_
                  clear KIS
                  rintro e w3 ⟨rfl, H2⟩
                  have HT9 : Hid (TkR w.heap.size w3 (.slice va L.length vc) L) := HT.out.below H2.out
                  have HB9 : Hid (Below w.heap.size w w3) := HB.out.trans (H2.out.mono HB.out.size)
                  clear HT HB H2
                  have HT : Hid (TkR w.heap.size w3 (.slice va L.length vc) L) := HT9
                  have HB : Hid (Below w.heap.size w w3) := HB9
                  clear HT9 HB9
                  go_wp2_with (refine wl_app rfl (.tmp 129) (.tmp 136) 22 32 3 rfl (by decide) Tryz.underlying22 iTk (.slice va L.length vc) L.length (tkC L) rfl w.heap.size (Nat.le_trans HB.out.size (by simp)) (HT.out.below (Below.alloc (Below.refl _ _) (Nat.le_refl _) _)) (some ⟨w3.heap.size, 0, none⟩) 1 1 rfl (by simp) [.int .i64 1, .string (s.extract i j), .int .i64 (i : Int)] rfl (cells_new w3 _ _) (one_tk _ _ _) (by omega) ?_)
                  intro v6 w6 hr6 hg6 _
                  have HR : Hid (TkR w.heap.size w6 v6 (L ++ [(1, bts (s.extract i j), i)])) := by
                   show w6.ownsRow w.heap.size 32 3 v6 (L ++ [(1, bts (s.extract i j), i)]).length (tkC (L ++ [(1, bts (s.extract i j), i)]))
                   rw [<- tkC_app, List.length_append, ofB_bts]
                   exact hr6
                  have HB6 : Hid (Below w.heap.size w w6) := app_below HB.out HT.out HB.out.size _ hg6
                  clear hr6 hg6 HT HB
                  go_wp2
                  go_roundw
                  case rel => exact ⟨j, L ++ [(1, bts (s.extract i j), i)], by omega, by go_num, HR.out, by simp; omega, HU2.out, HB6.out⟩
                  case measure => simp [intOf]; omega
        | false =>
          by_cases h34 : c = 34
          . as_aux_lemma =>
             subst h34
             rw [show isLt 34 = false from rfl] at KL
             clear n32 n9 n10 n13 hbl
             have hql : ((bts s).drop (i + 1)).length = s.size - (i + 1) := by rw [List.length_drop, bts_len]
             obtain ⟨T, hTT⟩ : ∃ T, (((bts s).drop (i + 1)).takeWhile (· != 34)).length = T := ⟨_, rfl⟩
             have hTl : i + 1 + T <= s.size := by
              have := tw_le (· != 34) ((bts s).drop (i + 1))
              rw [hTT, hql] at this
              omega
             have hTk : ((bts s).drop (i + 1)).takeWhile (· != 34) = bts (s.extract (i + 1) (i + 1 + T)) := by
              have := List.takeWhile_prefix (p := fun x : Nat => x != 34) (l := (bts s).drop (i + 1))
              rw [List.prefix_iff_eq_take, hTT] at this
              rw [this, bts_midL s (i + 1) T hTl]
             have HTA : Hid (∀ m, m <= T -> (m < T ↔ i + 1 + m < s.size /\ ¬ (bts s).getD (i + 1 + m) 0 = 34)) := fun m hm => by
              have := tw_at (f := fun x => x != 34) ((bts s).drop (i + 1)) m (by rw [hTT]; exact hm)
              rw [hTT] at this
              rw [this, at_drop]
              constructor
              . rintro ⟨c, h1, h2⟩
                have := (List.getElem?_eq_some_iff.1 h1).1
                rw [bts_len] at this
                exact ⟨this, by rw [getD_some h1]; simpa using h2⟩
              . rintro ⟨h1, h2⟩
                exact ⟨_, lt_some (by rw [bts_len]; exact h1), by simpa using h2⟩
             have hst : Lx.step tx nu ((bts s).drop i) = if s.size - (i + 1) = T ∨ T < 1 ∨ 40 < T then .bad else .tok 1 (bts (s.extract (i + 1) (i + 1 + T))) (T + 2) := by
              rw [hdr, st_quo, hTT, hql, hTk]
             have HST : Hid (Lx.step tx nu ((bts s).drop i) = if s.size - (i + 1) = T ∨ T < 1 ∨ 40 < T then .bad else .tok 1 (bts (s.extract (i + 1) (i + 1 + T))) (T + 2)) := hst
             have HNE : Hid ((bts s).drop i ≠ []) := hne
             clear hst hTk hTT hql hdr hne hoc HTX HNU KD
             go_wp2_with fail
             refine KL.mono ?_
             clear KL
             rintro e w' ⟨rfl, hw⟩
             subst w'
             go_wp2_with fail
             go_loopw [10] (fun iv w5 => ∃ m : Nat, m <= T /\ iv = .int .i64 ((i + 1 + m : Nat) : Int) /\ w5 = wr) (fun iv _ => s.size - (intOf iv).toNat)
             case atStart => exact ⟨0, Nat.zero_le _, by simp, rfl⟩
             case round =>
              obtain ⟨m, hm, rfl, rfl⟩ := hrel
              have hT := HTA.out m hm
              clear hix
              obtain ⟨j, hj⟩ : ∃ j, i + 1 + m = j := ⟨_, rfl⟩
              rw [hj] at hT ⊢
              have e1 : IntKind.i64.wrap ((j : Int) + 1) = (j : Int) + 1 := by rw [IntKind.wrap_i64]; omega
              by_cases hlt4 : m < T
              . obtain ⟨h1, h2⟩ := hT.1 hlt4
                have hlt' : (j : Int) < (s.size : Int) := by omega
                have hix := idxL s j h1 wr
                have h2' : ¬ (((bts s).getD j 0 : Nat) : Int) = 34 := by omega
                generalize (bts s).getD j 0 = c4 at *
                clear hT h2
                go_wp2
                go_roundw
                case rel => exact ⟨m + 1, by omega, by rw [<- hj]; go_num, by first | rfl | trivial⟩
                case measure => simp [intOf]; omega
              . obtain rfl : m = T := by omega
                have hno : ¬ (j < s.size /\ ¬ (bts s).getD j 0 = 34) := fun h => hlt4 (hT.2 h)
                clear hT hlt4 HTA hm
                have HST : Hid (Lx.step tx nu ((bts s).drop i) = if s.size = j ∨ m < 1 ∨ 40 < m then .bad else .tok 1 (bts (s.extract (i + 1) j)) (m + 2)) := by
                 show _ = _
                 rw [HST.out, hj]
                 by_cases hq : s.size = j ∨ m < 1 ∨ 40 < m
                 . rw [if_pos hq, if_pos (by omega)]
                 . rw [if_neg hq, if_neg (by omega)]
                have w1 : IntKind.i64.wrap ((j : Int) - (i : Int)) = (j : Int) - (i : Int) := by rw [IntKind.wrap_i64]; omega
                have w2 : IntKind.i64.wrap ((j : Int) - (i : Int) - 1) = (m : Int) := by rw [IntKind.wrap_i64]; omega
                by_cases h1 : j < s.size
                . have hc34 : (bts s).getD j 0 = 34 := Classical.byContradiction fun h => hno ⟨h1, h⟩
                  have hix := idxL s j h1 wr
                  rw [hc34] at hix
                  have h1' : (j : Int) < (s.size : Int) := by omega
                  have h1'' : ¬ (j : Int) = (s.size : Int) := by omega
                  clear hno hc34
                  by_cases h3 : m < 1
                  . have h3' : (m : Int) < 1 := by omega
                    have HBD : Hid ((lexR tx nu (bts s) 0).2 = some i) := HU.out.bad HNE.out (by rw [HST.out, if_pos (by omega)])
                    clear HU HST HNE
                    go_wp2_with fail
                    go_wp2
                    go_ret3
                    refine ⟨?_, HB.out⟩
                    unfold LexA
                    rw [HBD.out]
                    all_goals rfl
                  . have h3' : ¬ (m : Int) < 1 := by omega
                    by_cases h4 : 40 < m
                    . have h4' : (m : Int) > 40 := by omega
                      have HBD : Hid ((lexR tx nu (bts s) 0).2 = some i) := HU.out.bad HNE.out (by rw [HST.out, if_pos (by omega)])
                      clear HU HST HNE
                      go_wp2_with fail
                      go_wp2
                      go_ret3
                      refine ⟨?_, HB.out⟩
                      unfold LexA
                      rw [HBD.out]
                      all_goals rfl
                    . have h4' : ¬ (m : Int) > 40 := by omega
                      have HU2 : Hid (LexU tx nu (bts s) (L ++ [(1, bts (s.extract (i + 1) j), i)]) (j + 1)) := by
                       have := HU.out.tok HNE.out (by rw [HST.out, if_neg (by omega)])
                       rw [show i + (m + 2) = j + 1 by omega] at this
                       exact this
                      have hij : i < j := by omega
                      clear HU HST HNE
                      go_wp2_with (refine wl_app rfl (.tmp 175) (.tmp 183) 22 32 3 rfl (by decide) Tryz.underlying22 iTk (.slice va L.length vc) L.length (tkC L) rfl w.heap.size (Nat.le_trans HB.out.size (by simp)) (HT.out.below (Below.alloc (Below.refl _ _) (Nat.le_refl _) _)) (some ⟨wr.heap.size, 0, none⟩) 1 1 rfl (by simp) [.int .i64 1, .string (s.extract (i + 1) j), .int .i64 (i : Int)] rfl (cells_new wr _ _) (one_tk _ _ _) (by omega) ?_)
                      intro v6 w6 hr6 hg6 _
                      have HR : Hid (TkR w.heap.size w6 v6 (L ++ [(1, bts (s.extract (i + 1) j), i)])) := by
                       show w6.ownsRow w.heap.size 32 3 v6 (L ++ [(1, bts (s.extract (i + 1) j), i)]).length (tkC (L ++ [(1, bts (s.extract (i + 1) j), i)]))
                       rw [<- tkC_app, List.length_append, ofB_bts]
                       exact hr6
                      have HB6 : Hid (Below w.heap.size w w6) := app_below HB.out HT.out HB.out.size _ hg6
                      clear hr6 hg6 HT HB
                      go_wp2
                      go_roundw
                      case rel => exact ⟨j + 1, L ++ [(1, bts (s.extract (i + 1) j), i)], by omega, by go_num, HR.out, by simp; omega, HU2.out, HB6.out⟩
                      case measure => simp [intOf]; omega
                . have h1' : ¬ (j : Int) < (s.size : Int) := by omega
                  obtain rfl : j = s.size := by omega
                  have HBD : Hid ((lexR tx nu (bts s) 0).2 = some i) := HU.out.bad HNE.out (by rw [HST.out, if_pos (by omega)])
                  clear HU HST HNE hno
                  go_wp2_with fail
                  go_wp2
                  go_ret3
                  refine ⟨?_, HB.out⟩
                  unfold LexA
                  rw [HBD.out]
                  all_goals rfl
          . have n34 : ((c : Int) == 34) = false := beq_eq_false_iff_ne.2 (by omega)
            cases hd : isDg c with
            | true =>
              as_aux_lemma =>
               rw [hl] at KL
               rw [hd] at KD
               have hnn := nuE_le (q := (bts s).drop (i + 1)) hd
               obtain ⟨⟨n, pt⟩, hn⟩ : ∃ z, nuE ((bts s).drop i) = z := ⟨_, rfl⟩
               rw [<- hdr, hn, List.length_drop, bts_len] at hnn
               simp only at hnn
               have hin : i + n <= s.size := by omega
               have hmid := bts_midL s i n hin
               have KN := number_any nu HNU.out s i hlt (by omega) n pt hn wr
               have hst : Lx.step tx nu ((bts s).drop i) = if folw ((bts s).drop (i + n)) = true ∨ nu (bts (s.extract i (i + n))) = false then .bad else .tok (if pt then 4 else 3) (bts (s.extract i (i + n))) n := by
                have := st_num (tx := tx) (nu := nu) (q := (bts s).drop (i + 1)) hd
                rw [<- hdr, hn, List.drop_drop] at this
                rw [this, hmid]
               rw [<- hmid] at KN
               cases hf : folw ((bts s).drop (i + n)) with
               | true =>
                 rw [hf] at KN hst
                 simp only [if_true] at KN
                 have HBD : Hid ((lexR tx nu (bts s) 0).2 = some i) := HU.out.bad hne (by rw [hst]; simp)
                 clear HU hdr hne hoc HTX HNU hst hmid hf hn hl hd hnn
                 clear hbl
                 go_wp2_with fail
                 refine KL.mono ?_
                 clear KL
                 rintro e w' ⟨rfl, hw⟩
                 subst w'
                 go_wp2_with fail
                 refine KD.mono ?_
                 clear KD
                 rintro e w' ⟨rfl, hw⟩
                 subst w'
                 go_wp2_with fail
                 refine KN.mono ?_
                 clear KN
                 rintro e w2 ⟨rfl, H2⟩
                 have HT9 : Hid (TkR w.heap.size w2 (.slice va L.length vc) L) := HT.out.below H2.out
                 have HB9 : Hid (Below w.heap.size w w2) := HB.out.trans (H2.out.mono HB.out.size)
                 clear HT HB H2
                 have HT : Hid (TkR w.heap.size w2 (.slice va L.length vc) L) := HT9
                 have HB : Hid (Below w.heap.size w w2) := HB9
                 clear HT9 HB9
                 go_wp2
                 go_ret3
                 refine ⟨?_, HB.out⟩
                 unfold LexA
                 rw [HBD.out]
                 all_goals rfl
               | false =>
                 rw [hf] at KN hst
                 simp only [Bool.false_eq_true, if_false, false_or] at KN hst
                 cases hx : nu (bts (s.extract i (i + n))) with
                 | false =>
                   rw [hx] at KN hst
                   have HBD : Hid ((lexR tx nu (bts s) 0).2 = some i) := HU.out.bad hne (by rw [hst]; simp)
                   obtain ⟨k, hk⟩ : ∃ k, i + n = k := ⟨_, rfl⟩
                   rw [hk] at KN hin
                   clear HU hdr hne hoc HTX HNU hst hx hmid hf hn hl hd hnn
                   clear hbl
                   go_wp2_with fail
                   refine KL.mono ?_
                   clear KL
                   rintro e w' ⟨rfl, hw⟩
                   subst w'
                   go_wp2_with fail
                   refine KD.mono ?_
                   clear KD
                   rintro e w' ⟨rfl, hw⟩
                   subst w'
                   go_wp2_with fail
                   refine KN.mono ?_
                   clear KN
                   rintro e w2 ⟨rfl, H2⟩
                   have HT9 : Hid (TkR w.heap.size w2 (.slice va L.length vc) L) := HT.out.below H2.out
                   have HB9 : Hid (Below w.heap.size w w2) := HB.out.trans (H2.out.mono HB.out.size)
                   clear HT HB H2
                   have HT : Hid (TkR w.heap.size w2 (.slice va L.length vc) L) := HT9
                   have HB : Hid (Below w.heap.size w w2) := HB9
                   clear HT9 HB9
                   go_wp2
                   go_ret3
                   refine ⟨?_, HB.out⟩
                   unfold LexA
                   rw [HBD.out]
                   all_goals rfl
                 | true =>
                   rw [hx] at KN hst
                   clear hbl
                   cases pt with
                   | true =>
                     have HU2 : Hid (LexU tx nu (bts s) (L ++ [(4, bts (s.extract i (i + n)), i)]) (i + n)) := HU.out.tok hne (by rw [hst]; rfl)
                     obtain ⟨k, hk⟩ : ∃ k, i + n = k := ⟨_, rfl⟩
                     rw [hk] at HU2 KN hin
                     have hik : i < k := by omega
                     clear HU hdr hne hoc HTX HNU hst hx hmid hf hn
                     go_wp2_with fail
                     refine KL.mono ?_
                     clear KL
                     rintro e w' ⟨rfl, hw⟩
                     subst w'
                     go_wp2_with fail
                     refine KD.mono ?_
                     clear KD
                     rintro e w' ⟨rfl, hw⟩
                     subst w'
                     go_wp2_with fail
                     refine KN.mono ?_
                     clear KN
                     rintro e w2 ⟨rfl, H2⟩
                     have HT9 : Hid (TkR w.heap.size w2 (.slice va L.length vc) L) := HT.out.below H2.out
                     have HB9 : Hid (Below w.heap.size w w2) := HB.out.trans (H2.out.mono HB.out.size)
                     clear HT HB H2
                     have HT : Hid (TkR w.heap.size w2 (.slice va L.length vc) L) := HT9
                     have HB : Hid (Below w.heap.size w w2) := HB9
                     clear HT9 HB9
                     go_wp2_with (refine wl_app rfl (.tmp 201) (.tmp 209) 22 32 3 rfl (by decide) Tryz.underlying22 iTk (.slice va L.length vc) L.length (tkC L) rfl w.heap.size (Nat.le_trans HB.out.size (by simp)) (HT.out.below (Below.alloc (Below.refl _ _) (Nat.le_refl _) _)) (some ⟨w2.heap.size, 0, none⟩) 1 1 rfl (by simp) [.int .i64 4, .string (s.extract i k), .int .i64 (i : Int)] rfl (cells_new w2 _ _) (one_tk _ _ _) (by omega) ?_)
                     intro v6 w6 hr6 hg6 _
                     have HR : Hid (TkR w.heap.size w6 v6 (L ++ [(4, bts (s.extract i k), i)])) := by
                      show w6.ownsRow w.heap.size 32 3 v6 (L ++ [(4, bts (s.extract i k), i)]).length (tkC (L ++ [(4, bts (s.extract i k), i)]))
                      rw [<- tkC_app, List.length_append, ofB_bts]
                      exact hr6
                     have HB6 : Hid (Below w.heap.size w w6) := app_below HB.out HT.out HB.out.size _ hg6
                     clear hr6 hg6 HT HB
                     go_wp2
                     go_roundw
                     case rel => exact ⟨k, L ++ [(4, bts (s.extract i k), i)], by omega, by go_num, HR.out, by simp; omega, HU2.out, HB6.out⟩
                     case measure => simp [intOf]; omega
                   | false =>
                     have HU2 : Hid (LexU tx nu (bts s) (L ++ [(3, bts (s.extract i (i + n)), i)]) (i + n)) := HU.out.tok hne (by rw [hst]; rfl)
                     obtain ⟨k, hk⟩ : ∃ k, i + n = k := ⟨_, rfl⟩
                     rw [hk] at HU2 KN hin
                     have hik : i < k := by omega
                     clear HU hdr hne hoc HTX HNU hst hx hmid hf hn
                     go_wp2_with fail
                     refine KL.mono ?_
                     clear KL
                     rintro e w' ⟨rfl, hw⟩
                     subst w'
                     go_wp2_with fail
                     refine KD.mono ?_
                     clear KD
                     rintro e w' ⟨rfl, hw⟩
                     subst w'
                     go_wp2_with fail
                     refine KN.mono ?_
                     clear KN
                     rintro e w2 ⟨rfl, H2⟩
                     have HT9 : Hid (TkR w.heap.size w2 (.slice va L.length vc) L) := HT.out.below H2.out
                     have HB9 : Hid (Below w.heap.size w w2) := HB.out.trans (H2.out.mono HB.out.size)
                     clear HT HB H2
                     have HT : Hid (TkR w.heap.size w2 (.slice va L.length vc) L) := HT9
                     have HB : Hid (Below w.heap.size w w2) := HB9
                     clear HT9 HB9
                     go_wp2_with (refine wl_app rfl (.tmp 201) (.tmp 209) 22 32 3 rfl (by decide) Tryz.underlying22 iTk (.slice va L.length vc) L.length (tkC L) rfl w.heap.size (Nat.le_trans HB.out.size (by simp)) (HT.out.below (Below.alloc (Below.refl _ _) (Nat.le_refl _) _)) (some ⟨w2.heap.size, 0, none⟩) 1 1 rfl (by simp) [.int .i64 3, .string (s.extract i k), .int .i64 (i : Int)] rfl (cells_new w2 _ _) (one_tk _ _ _) (by omega) ?_)
                     intro v6 w6 hr6 hg6 _
                     have HR : Hid (TkR w.heap.size w6 v6 (L ++ [(3, bts (s.extract i k), i)])) := by
                      show w6.ownsRow w.heap.size 32 3 v6 (L ++ [(3, bts (s.extract i k), i)]).length (tkC (L ++ [(3, bts (s.extract i k), i)]))
                      rw [<- tkC_app, List.length_append, ofB_bts]
                      exact hr6
                     have HB6 : Hid (Below w.heap.size w w6) := app_below HB.out HT.out HB.out.size _ hg6
                     clear hr6 hg6 HT HB
                     go_wp2
                     go_roundw
                     case rel => exact ⟨k, L ++ [(3, bts (s.extract i k), i)], by omega, by go_num, HR.out, by simp; omega, HU2.out, HB6.out⟩
                     case measure => simp [intOf]; omega
            | false =>
              by_cases h39 : c = 39
              . as_aux_lemma =>
                 subst h39
                 rw [show isLt 39 = false from rfl] at KL
                 rw [show isDg 39 = false from rfl] at KD
                 clear n32 n9 n10 n13 hbl
                 have KT := text_any tx HTX.out s i hlt (by omega) (by rw [hdr]; rfl) wr
                 cases ht : txE ((bts s).drop (i + 1)) with
                 | none =>
                   have HBD : Hid ((lexR tx nu (bts s) 0).2 = some i) := HU.out.bad hne (by rw [hdr, st_txt, ht])
                   have hA : txA tx ((bts s).drop i) i = .tuple #[.int .i64 0, .bool false] := by unfold txA; rw [List.drop_drop, ht]
                   rw [hA] at KT
                   clear HU hdr hne hoc HTX HNU hA ht
                   go_wp2_with fail
                   refine KL.mono ?_
                   clear KL
                   rintro e w' ⟨rfl, hw⟩
                   subst w'
                   go_wp2_with fail
                   refine KD.mono ?_
                   clear KD
                   rintro e w' ⟨rfl, hw⟩
                   subst w'
                   go_wp2_with fail
                   refine KT.mono ?_
                   clear KT
                   rintro e w2 ⟨rfl, H2⟩
                   have HT9 : Hid (TkR w.heap.size w2 (.slice va L.length vc) L) := HT.out.below H2.out
                   have HB9 : Hid (Below w.heap.size w w2) := HB.out.trans (H2.out.mono HB.out.size)
                   clear HT HB H2
                   have HT : Hid (TkR w.heap.size w2 (.slice va L.length vc) L) := HT9
                   have HB : Hid (Below w.heap.size w w2) := HB9
                   clear HT9 HB9
                   go_wp2
                   go_ret3
                   refine ⟨?_, HB.out⟩
                   unfold LexA
                   rw [HBD.out]
                   all_goals rfl
                 | some n =>
                   have hnl := txE_le _ _ ht
                   rw [List.length_drop, bts_len] at hnl
                   have hin : i + 1 + n <= s.size := by omega
                   have hmid := bts_midL s i (n + 1) (by omega)
                   rw [show i + (n + 1) = i + 1 + n by omega] at hmid
                   have hA : txA tx ((bts s).drop i) i = .tuple #[.int .i64 ((i + 1 + n : Nat) : Int), .bool (tx (bts (s.extract i (i + 1 + n))))] := by unfold txA; rw [List.drop_drop, ht, hmid]
                   rw [hA] at KT
                   have hst : Lx.step tx nu ((bts s).drop i) = if tx (bts (s.extract i (i + 1 + n))) then .tok 5 (bts (s.extract i (i + 1 + n))) (n + 1) else .bad := by rw [hmid, hdr, st_txt, ht]
                   cases hx : tx (bts (s.extract i (i + 1 + n))) with
                   | true =>
                     rw [hx] at KT
                     have HU2 : Hid (LexU tx nu (bts s) (L ++ [(5, bts (s.extract i (i + 1 + n)), i)]) (i + 1 + n)) := by
                      have := HU.out.tok hne (by rw [hst, hx]; rfl)
                      rw [show i + (n + 1) = i + 1 + n by omega] at this
                      exact this
                     obtain ⟨k, hk⟩ : ∃ k, i + 1 + n = k := ⟨_, rfl⟩
                     rw [hk] at HU2 KT hin
                     clear HU hdr hne hoc HTX HNU hA ht hst hx hmid
                     go_wp2_with fail
                     refine KL.mono ?_
                     clear KL
                     rintro e w' ⟨rfl, hw⟩
                     subst w'
                     go_wp2_with fail
                     refine KD.mono ?_
                     clear KD
                     rintro e w' ⟨rfl, hw⟩
                     subst w'
                     go_wp2_with fail
                     refine KT.mono ?_
                     clear KT
                     rintro e w2 ⟨rfl, H2⟩
                     have HT9 : Hid (TkR w.heap.size w2 (.slice va L.length vc) L) := HT.out.below H2.out
                     have HB9 : Hid (Below w.heap.size w w2) := HB.out.trans (H2.out.mono HB.out.size)
                     clear HT HB H2
                     have HT : Hid (TkR w.heap.size w2 (.slice va L.length vc) L) := HT9
                     have HB : Hid (Below w.heap.size w w2) := HB9
                     clear HT9 HB9
                     go_wp2_with (refine wl_app rfl (.tmp 224) (.tmp 231) 22 32 3 rfl (by decide) Tryz.underlying22 iTk (.slice va L.length vc) L.length (tkC L) rfl w.heap.size (Nat.le_trans HB.out.size (by simp)) (HT.out.below (Below.alloc (Below.refl _ _) (Nat.le_refl _) _)) (some ⟨w2.heap.size, 0, none⟩) 1 1 rfl (by simp) [.int .i64 5, .string (s.extract i k), .int .i64 (i : Int)] rfl (cells_new w2 _ _) (one_tk _ _ _) (by omega) ?_)
                     intro v6 w6 hr6 hg6 _
                     have HR : Hid (TkR w.heap.size w6 v6 (L ++ [(5, bts (s.extract i k), i)])) := by
                      show w6.ownsRow w.heap.size 32 3 v6 (L ++ [(5, bts (s.extract i k), i)]).length (tkC (L ++ [(5, bts (s.extract i k), i)]))
                      rw [<- tkC_app, List.length_append, ofB_bts]
                      exact hr6
                     have HB6 : Hid (Below w.heap.size w w6) := app_below HB.out HT.out HB.out.size _ hg6
                     clear hr6 hg6 HT HB
                     go_wp2
                     go_roundw
                     case rel => exact ⟨k, L ++ [(5, bts (s.extract i k), i)], by omega, by go_num, HR.out, by simp; omega, HU2.out, HB6.out⟩
                     case measure => simp [intOf]; omega
                   | false =>
                     rw [hx] at KT
                     have HBD : Hid ((lexR tx nu (bts s) 0).2 = some i) := HU.out.bad hne (by rw [hst, hx]; rfl)
                     obtain ⟨k, hk⟩ : ∃ k, i + 1 + n = k := ⟨_, rfl⟩
                     rw [hk] at KT hin
                     clear HU hdr hne hoc HTX HNU hA ht hst hx hmid
                     go_wp2_with fail
                     refine KL.mono ?_
                     clear KL
                     rintro e w' ⟨rfl, hw⟩
                     subst w'
                     go_wp2_with fail
                     refine KD.mono ?_
                     clear KD
                     rintro e w' ⟨rfl, hw⟩
                     subst w'
                     go_wp2_with fail
                     refine KT.mono ?_
                     clear KT
                     rintro e w2 ⟨rfl, H2⟩
                     have HT9 : Hid (TkR w.heap.size w2 (.slice va L.length vc) L) := HT.out.below H2.out
                     have HB9 : Hid (Below w.heap.size w w2) := HB.out.trans (H2.out.mono HB.out.size)
                     clear HT HB H2
                     have HT : Hid (TkR w.heap.size w2 (.slice va L.length vc) L) := HT9
                     have HB : Hid (Below w.heap.size w w2) := HB9
                     clear HT9 HB9
                     go_wp2
                     go_ret3
                     refine ⟨?_, HB.out⟩
                     unfold LexA
                     rw [HBD.out]
                     all_goals rfl
              . have n39 : ((c : Int) == 39) = false := beq_eq_false_iff_ne.2 (by omega)
                by_cases h63 : c = 63
                . as_aux_lemma =>
                   subst h63
                   have HU2 : Hid (LexU tx nu (bts s) (L ++ [(7, [63], i)]) (i + 1)) := HU.out.tok hne (by rw [hdr]; exact st_par)
                   clear HU hdr hne hoc HTX HNU
                   rw [show isLt 63 = false from rfl] at KL
                   rw [show isDg 63 = false from rfl] at KD
                   clear n32 n9 n10 n13 hbl
                   go_wp2_with fail
                   refine KL.mono ?_
                   clear KL
                   rintro e w' ⟨rfl, hw⟩
                   subst w'
                   go_wp2_with fail
                   refine KD.mono ?_
                   clear KD
                   rintro e w' ⟨rfl, hw⟩
                   subst w'
                   go_wp2_with (refine wl_app rfl (.tmp 237) (.tmp 240) 22 32 3 rfl (by decide) Tryz.underlying22 iTk (.slice va L.length vc) L.length (tkC L) rfl w.heap.size (Nat.le_trans HB.out.size (by simp)) (HT.out.below (Below.alloc (Below.refl _ _) (Nat.le_refl _) _)) (some ⟨wr.heap.size, 0, none⟩) 1 1 rfl (by simp) [.int .i64 7, .string ⟨#[63]⟩, .int .i64 (i : Int)] rfl (cells_new wr _ _) (one_tk _ _ _) (by omega) ?_)
                   intro v6 w6 hr6 hg6 _
                   have HR : Hid (TkR w.heap.size w6 v6 (L ++ [(7, [63], i)])) := by
                    show w6.ownsRow w.heap.size 32 3 v6 (L ++ [(7, [63], i)]).length (tkC (L ++ [(7, [63], i)]))
                    rw [<- tkC_app, List.length_append]
                    exact hr6
                   have HB6 : Hid (Below w.heap.size w w6) := app_below HB.out HT.out HB.out.size _ hg6
                   clear hr6 hg6 HT HB
                   go_wp2
                   go_roundw
                   case rel => exact ⟨i + 1, L ++ [(7, [63], i)], by omega, by go_num, HR.out, by simp; omega, HU2.out, HB6.out⟩
                   case measure => simp [intOf]; omega
                . have n63 : ((c : Int) == 63) = false := beq_eq_false_iff_ne.2 (by omega)
                  as_aux_lemma =>
                   rw [hl] at KL
                   rw [hd] at KD
                   have hst : Lx.step tx nu ((bts s).drop i) = if sgn ((bts s).drop i) = [] then .bad else .tok 6 (told (sgn ((bts s).drop i))) (sgn ((bts s).drop i)).length := by
                    rw [hdr]
                    exact st_sgn hbl (fun e => h45 e.1) hl h34 hd h39 h63
                   have hsp := (sgn_pre ((bts s).drop i)).length_le
                   rw [List.length_drop, bts_len] at hsp
                   have hso := sgn_oct ((bts s).drop i)
                   have KS := sign_any s i (by omega) (by omega) wr
                   generalize sgn ((bts s).drop i) = X at *
                   by_cases hX : X = []
                   . subst hX
                     have HBD : Hid ((lexR tx nu (bts s) 0).2 = some i) := HU.out.bad hne (by rw [hst]; rfl)
                     rw [show ofB [] = (⟨#[]⟩ : ByteArray) from rfl] at KS
                     clear HU hdr hne hoc HTX HNU hst hsp hso
                     go_wp2_with fail
                     refine KL.mono ?_
                     clear KL
                     rintro e w' ⟨rfl, hw⟩
                     subst w'
                     go_wp2_with fail
                     refine KD.mono ?_
                     clear KD
                     rintro e w' ⟨rfl, hw⟩
                     subst w'
                     go_wp2_with fail
                     refine KS.mono ?_
                     clear KS
                     rintro e w2 ⟨rfl, H2⟩
                     have HT9 : Hid (TkR w.heap.size w2 (.slice va L.length vc) L) := HT.out.below H2.out
                     have HB9 : Hid (Below w.heap.size w w2) := HB.out.trans (H2.out.mono HB.out.size)
                     clear HT HB H2
                     have HT : Hid (TkR w.heap.size w2 (.slice va L.length vc) L) := HT9
                     have HB : Hid (Below w.heap.size w w2) := HB9
                     clear HT9 HB9
                     go_wp2
                     go_ret3
                     refine ⟨?_, HB.out⟩
                     unfold LexA
                     rw [HBD.out]
                     all_goals rfl
                   . by_cases hX2 : X = [60, 62]
                     . subst hX2
                       have HU2 : Hid (LexU tx nu (bts s) (L ++ [(6, [33, 61], i)]) (i + 2)) := HU.out.tok hne (by rw [hst]; rfl)
                       rw [show ofB [60, 62] = (⟨#[60, 62]⟩ : ByteArray) from rfl] at KS
                       have hsp : i + 2 <= s.size := by simp at hsp; omega
                       have e2 : IntKind.i64.wrap ((i : Int) + 2) = (i : Int) + 2 := by rw [IntKind.wrap_i64]; omega
                       clear HU hdr hne hoc HTX HNU hst hso hX
                       go_wp2_with fail
                       refine KL.mono ?_
                       clear KL
                       rintro e w' ⟨rfl, hw⟩
                       subst w'
                       go_wp2_with fail
                       refine KD.mono ?_
                       clear KD
                       rintro e w' ⟨rfl, hw⟩
                       subst w'
                       go_wp2_with fail
                       refine KS.mono ?_
                       clear KS
                       rintro e w2 ⟨rfl, H2⟩
                       have HT9 : Hid (TkR w.heap.size w2 (.slice va L.length vc) L) := HT.out.below H2.out
                       have HB9 : Hid (Below w.heap.size w w2) := HB.out.trans (H2.out.mono HB.out.size)
                       clear HT HB H2
                       have HT : Hid (TkR w.heap.size w2 (.slice va L.length vc) L) := HT9
                       have HB : Hid (Below w.heap.size w w2) := HB9
                       clear HT9 HB9
                       go_wp2_with (refine wl_app rfl (.tmp 39) (.tmp 43) 22 32 3 rfl (by decide) Tryz.underlying22 iTk (.slice va L.length vc) L.length (tkC L) rfl w.heap.size (Nat.le_trans HB.out.size (by simp)) (HT.out.below (Below.alloc (Below.refl _ _) (Nat.le_refl _) _)) (some ⟨w2.heap.size, 0, none⟩) 1 1 rfl (by simp) [.int .i64 6, .string ⟨#[33, 61]⟩, .int .i64 (i : Int)] rfl (cells_new w2 _ _) (one_tk _ _ _) (by omega) ?_)
                       intro v6 w6 hr6 hg6 _
                       have HR : Hid (TkR w.heap.size w6 v6 (L ++ [(6, [33, 61], i)])) := by
                        show w6.ownsRow w.heap.size 32 3 v6 (L ++ [(6, [33, 61], i)]).length (tkC (L ++ [(6, [33, 61], i)]))
                        rw [<- tkC_app, List.length_append]
                        exact hr6
                       have HB6 : Hid (Below w.heap.size w w6) := app_below HB.out HT.out HB.out.size _ hg6
                       clear hr6 hg6 HT HB
                       go_wp2
                       go_roundw
                       case rel => exact ⟨i + 2, L ++ [(6, [33, 61], i)], by omega, by go_num, HR.out, by simp; omega, HU2.out, HB6.out⟩
                       case measure => simp [intOf]; omega
                     . have HU2 : Hid (LexU tx nu (bts s) (L ++ [(6, X, i)]) (i + X.length)) := by
                        have := HU.out.tok hne (by rw [hst, if_neg hX])
                        rw [show told X = X by unfold told; rw [if_neg hX2]] at this
                        exact this
                       have hn0 : 1 <= X.length := by
                        cases X with
                        | nil => exact absurd rfl hX
                        | cons a b => simp
                       obtain ⟨x, hx⟩ : ∃ x, ofB X = x := ⟨_, rfl⟩
                       have hxs : X.length = x.size := by rw [<- hx, ofB_size']
                       have hx1 : (x.toList == (⟨#[]⟩ : ByteArray).toList) = false := by
                        rw [toL_eq]
                        exact decide_eq_false fun e => hX (by rw [<- hso, hx, e]; rfl)
                       have hx2 : (x.toList == (⟨#[60, 62]⟩ : ByteArray).toList) = false := by
                        rw [toL_eq]
                        exact decide_eq_false fun e => hX2 (by rw [<- hso, hx, e]; rfl)
                       have hx0 : x.toList.isEmpty = false := by
                        have := hx1
                        rw [show (⟨#[]⟩ : ByteArray).toList = [] by simp] at this
                        rw [<- this]
                        cases x.toList <;> rfl
                       have hx3 : (x.toList == [60, 62]) = false := by
                        have := hx2
                        rw [show (⟨#[60, 62]⟩ : ByteArray).toList = [60, 62] by simp] at this
                        exact this
                       rw [hx] at KS hso
                       rw [hxs] at hsp hn0 HU2
                       rw [<- hso] at HU2
                       have hxi : i + x.size <= s.size := by omega
                       have e2 : IntKind.i64.wrap ((i : Int) + (x.size : Int)) = (i : Int) + (x.size : Int) := by rw [IntKind.wrap_i64]; omega
                       clear HU hdr hne hoc HTX HNU hst hso hX hX2 hsp hx hxs
                       go_wp2_with fail
                       refine KL.mono ?_
                       clear KL
                       rintro e w' ⟨rfl, hw⟩
                       subst w'
                       go_wp2_with fail
                       refine KD.mono ?_
                       clear KD
                       rintro e w' ⟨rfl, hw⟩
                       subst w'
                       go_wp2_with fail
                       refine KS.mono ?_
                       clear KS
                       rintro e w2 ⟨rfl, H2⟩
                       have HT9 : Hid (TkR w.heap.size w2 (.slice va L.length vc) L) := HT.out.below H2.out
                       have HB9 : Hid (Below w.heap.size w w2) := HB.out.trans (H2.out.mono HB.out.size)
                       clear HT HB H2
                       have HT : Hid (TkR w.heap.size w2 (.slice va L.length vc) L) := HT9
                       have HB : Hid (Below w.heap.size w w2) := HB9
                       clear HT9 HB9
                       go_wp2_with (refine wl_app rfl (.tmp 39) (.tmp 43) 22 32 3 rfl (by decide) Tryz.underlying22 iTk (.slice va L.length vc) L.length (tkC L) rfl w.heap.size (Nat.le_trans HB.out.size (by simp)) (HT.out.below (Below.alloc (Below.refl _ _) (Nat.le_refl _) _)) (some ⟨w2.heap.size, 0, none⟩) 1 1 rfl (by simp) [.int .i64 6, .string x, .int .i64 (i : Int)] rfl (cells_new w2 _ _) (one_tk _ _ _) (by omega) ?_)
                       intro v6 w6 hr6 hg6 _
                       have HR : Hid (TkR w.heap.size w6 v6 (L ++ [(6, bts x, i)])) := by
                        show w6.ownsRow w.heap.size 32 3 v6 (L ++ [(6, bts x, i)]).length (tkC (L ++ [(6, bts x, i)]))
                        rw [<- tkC_app, List.length_append, ofB_bts]
                        exact hr6
                       have HB6 : Hid (Below w.heap.size w w6) := app_below HB.out HT.out HB.out.size _ hg6
                       clear hr6 hg6 HT HB
                       go_wp2
                       go_roundw
                       case rel => exact ⟨i + x.size, L ++ [(6, bts x, i)], by omega, by go_num, HR.out, by simp; omega, HU2.out, HB6.out⟩
                       case measure => simp [intOf]; omega
  . have x1' : ¬ (i : Int) < (s.size : Int) := by omega
    as_aux_lemma =>
     obtain rfl : i = s.size := by omega
     have HD := HU.out.done (by rw [bts_len])
     have HDD : Hid (lexR tx nu (bts s) 0 = (L ++ [(8, [], s.size)], none)) := HD
     clear HU HD
     go_wp2_with (refine wl_app rfl (.tmp 244) (.tmp 248) 22 32 3 rfl (by decide) Tryz.underlying22 iTk (.slice va L.length vc) L.length (tkC L) rfl w.heap.size (Nat.le_trans HB.out.size (by simp)) (HT.out.below (Below.alloc (Below.refl _ _) (Nat.le_refl _) _)) (some ⟨wr.heap.size, 0, none⟩) 1 1 rfl (by simp) [.int .i64 8, .string ⟨#[]⟩, .int .i64 (s.size : Int)] rfl (cells_new wr _ _) (one_tk _ _ _) (by omega) ?_)
     intro v6 w6 hr6 hg6 _
     have HR : Hid (TkR w.heap.size w6 v6 (L ++ [(8, [], s.size)])) := by
      show w6.ownsRow w.heap.size 32 3 v6 (L ++ [(8, [], s.size)]).length (tkC (L ++ [(8, [], s.size)]))
      rw [<- tkC_app, List.length_append]
      exact hr6
     have HB6 : Hid (Below w.heap.size w w6) := app_below HB.out HT.out HB.out.size _ hg6
     clear hr6 hg6 HT HB
     go_wp2
     go_ret3
     refine ⟨?_, HB6.out⟩
     unfold LexA
     rw [HDD.out]
     exact ⟨v6, rfl, HR.out⟩
end Go.Proofs.YtpfiejmhnkcjbaaGreatDoor
