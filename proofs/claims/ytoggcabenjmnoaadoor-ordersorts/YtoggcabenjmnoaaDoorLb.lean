/-
  The document's own order: number.
-/
import Derived.Test.YtoggcabenjmnoaaDoorLa
namespace Go.Proofs.YtoggcabenjmnoaaDoor
open Go.RowKit Math
set_option linter.unusedVariables false
set_option linter.unusedSimpArgs false
theorem own_lit (w : World) (l : List Nat) (base : Nat) (hb : base ≤ w.heap.size) (hl : l.length ≤ 1000) : Own (w.alloc (.cells (vals l).toArray 5)) base (.slice (some ⟨w.heap.size, 0, none⟩) l.length l.length) l := by
  have h := World.ownsRow_lit (base := base) (e := 5) (size := 1) w (vals l).toArray l.length hb (by unfold maxLen; omega) (by simp [vals_length])
  unfold Own
  simpa using h
set_option maxRecDepth 8000 in
theorem rNum_zero (k s : Int) (t : ByteArray) (na : Option Addr) (nl nc : Nat) (ka : Option Addr) (kl kc : Nat) (W : World) :
    Calls Tryd.prog 37 #[.agg #[.int .i64 k, .int .i64 0, .int .i64 s, .string t, .slice na nl nc, .slice ka kl kc]] W fun e w' => ∃ v', e = .returned v' ∧ Own w' W.heap.size v' [128] ∧ Below W.heap.size W w' := by
  obtain ⟨W1, HW1⟩ : ∃ W1, Hid (W.alloc (.cells #[.int .i64 k, .int .i64 0, .int .i64 s, .string t, .slice na nl nc, .slice ka kl kc] 34) = W1) := ⟨_, rfl⟩
  have hz1 : W1.heap.size = W.heap.size + 1 := by have := HW1.out; subst this; simp
  have HB1 : Hid (Below W.heap.size W W1) := by rw [← HW1.out]; exact (Below.refl _ _).alloc (Nat.le_refl _) _
  have HO : Hid (Own (W1.alloc (.cells #[.int .u8 128] 5)) W.heap.size (.slice (some ⟨W.heap.size + 1, 0, none⟩) 1 1) [128]) := by
    have := own_lit W1 [128] W.heap.size (by omega) (by simp)
    rw [hz1] at this
    exact this
  have HB2 : Hid (Below W.heap.size W (W1.alloc (.cells #[.int .u8 128] 5))) := HB1.out.alloc (by omega) _
  go_enter Tryd.func37, Tryd.ntmps37
  go_wp2
  generalize hWW : World.alloc W _ = W9
  obtain rfl : W1 = W9 := by rw [← hWW, ← HW1.out]
  clear hWW HW1
  go_ret
  exact ⟨_, rfl, HO.out, HB2.out⟩
theorem txD_at {l : List Nat} (h : ∀ x ∈ l, x < 10) (j : Nat) (hj : j < (txD l).size) : ((txD l)[j]'hj).toNat = 48 + l.getD j 0 := by
  rw [← bts_get _ _ hj, txD_bts h]
  rw [txD_size] at hj
  simp [List.getD_eq_getElem?_getD, hj]
theorem txD_take {l : List Nat} (h : ∀ x ∈ l, x < 10) (j : Nat) (hj : j ≤ l.length) : (txD l).extract 0 j = txD (l.take j) := by
  apply bts_inj
  rw [bts_take _ _ (by rw [txD_size]; exact hj), txD_bts h, txD_bts (fun x hx => h x (List.mem_of_mem_take hx)), List.map_take]
theorem own_mono {w : World} {b c : Nat} {v : Value} {l : List Nat} (h : Own w b v l) (hc : c ≤ b) : Own w c v l := by
  unfold Own at h ⊢
  rcases h with ⟨h1, h2 | ⟨g, cap, cur, e1, e2, e3⟩⟩
  · exact ⟨h1, .inl h2⟩
  · exact ⟨h1, .inr ⟨g, cap, cur, e1, Nat.le_trans hc e2, e3⟩⟩
theorem take_getD (l : List Nat) (k j : Nat) (h : j < k) : (l.take k).getD j 0 = l.getD j 0 := by
  rw [List.getD_eq_getElem?_getD, List.getD_eq_getElem?_getD, List.getElem?_take, if_pos h]
set_option maxRecDepth 8000 in
set_option maxHeartbeats 2000000 in
theorem rNum_any (k n s : Int) (t : ByteArray) (na : Option Addr) (nl nc : Nat) (ka : Option Addr) (kl kc : Nat) (W : World) (hn : n ≠ 0) (n0 : -9223372036854775808 ≤ n) (n1 : n < 9223372036854775808) (hs0 : 0 ≤ s) (hs1 : s ≤ 18) :
    Calls Tryd.prog 37 #[.agg #[.int .i64 k, .int .i64 n, .int .i64 s, .string t, .slice na nl nc, .slice ka kl kc]] W fun e w' => ∃ v', e = .returned v' ∧ Own w' W.heap.size v' (numB n s) ∧ Below W.heap.size W w' := by
  obtain ⟨W1, HW1⟩ : ∃ W1, Hid (W.alloc (.cells #[.int .i64 k, .int .i64 n, .int .i64 s, .string t, .slice na nl nc, .slice ka kl kc] 34) = W1) := ⟨_, rfl⟩
  have HX : Hid (Blk W1 W.heap.size 34 (box6 k n s t na nl nc ka kl kc)) := by rw [← HW1.out]; exact blk_new W 34 (box6 k n s t na nl nc ka kl kc)
  have HZ1 : Hid (W1.heap.size = W.heap.size + 1) := by have := HW1.out; subst this; show _ = _; simp
  have HB1 : Hid (Below W.heap.size W W1) := by rw [← HW1.out]; exact (Below.refl _ _).alloc (Nat.le_refl _) _
  obtain ⟨m, hm⟩ : ∃ m, m = n.natAbs := ⟨_, rfl⟩
  have hm0 : 0 < m := by omega
  have hm2 : m < 10000000000000000000 := by omega
  have KA := abs_any n n0 n1 W1
  rw [← hm] at KA
  have KD := dec_any m hm0 (by omega) W1
  have HNb : Hid (numB n s = if n < 0 then turnB (posB m s) else posB m s) := by
    show _ = _
    unfold numB
    rw [if_neg hn, hm]
  have HP : Hid (posB m s = (192 + ((dgs 20 m).length : Int) - s).toNat :: ((trz (dgs 20 m)).map (· + 1) ++ [0])) := rfl
  have HPo : Hid (Oct (posB m s)) := posB_oct m s hm2 hs0 hs1
  have hDl : (dgs 20 m).length ≤ 19 := by
    rw [dgs_fuel 19 m (by show m < 10 ^ 19; omega) 20 (by omega)]
    exact dgs_len 19 m
  have hDp : 0 < (dgs 20 m).length := dgs_pos 19 m (by omega)
  have HDd : Hid (∀ x ∈ dgs 20 m, x < 10) := dgs_lt 20 m
  have HDh : Hid ((dgs 20 m).getD 0 0 ≠ 0) := dgs_head 20 m (by show m < 10 ^ 20; omega) hm0
  have hDs : (txD (dgs 20 m)).size = (dgs 20 m).length := txD_size _
  have hn0 : (n == 0) = false := beq_eq_false_iff_ne.2 hn
  generalize dgs 20 m = D at *
  generalize posB m s = P at *
  clear hm hm0 hm2
  go_enter Tryd.func37, Tryd.ntmps37
  go_wp2_with fail
  generalize hWW : World.alloc W _ = W9
  obtain rfl : W1 = W9 := by rw [← hWW, ← HW1.out]
  clear hWW HW1
  refine KA.mono ?_
  rintro e w1 ⟨rfl, hw1⟩
  have hw1' := hw1.symm
  subst hw1'
  clear KA hw1
  go_wp2_with fail
  refine KD.mono ?_
  rintro e w2 ⟨rfl, b2⟩
  have HB2 : Hid (Below W1.heap.size W1 w2) := b2
  have c2 : w2.cell? ⟨W.heap.size, 2, none⟩ = some (.int .i64 s) := (HX.out.below b2 HX.out.lt).cell 2
  clear KD b2
  go_wp2
  clear c2
  go_loop [3] (fun q => ∃ j : Nat, j < D.length ∧ q = .string (txD (D.take (j + 1))) ∧ Hid (∀ i, j + 1 ≤ i → i < D.length → D.getD i 0 = 0)) (fun q => match q with | .string b => b.size | _ => 0)
  case atStart => exact ⟨D.length - 1, by omega, by rw [List.take_of_length_le (by omega)], fun i h1 h2 => absurd h2 (by omega)⟩
  case round =>
    obtain ⟨j, hj, rfl, HZ⟩ := hrel
    have HEd : Hid (∀ x ∈ D.take (j + 1), x < 10) := fun x hx => HDd.out x (List.mem_of_mem_take hx)
    obtain ⟨S, hS⟩ : ∃ S, txD (D.take (j + 1)) = S := ⟨_, rfl⟩
    have hSs : S.size = j + 1 := by rw [← hS, txD_size, List.length_take]; omega
    have hat : (S[j]'(by omega)).toNat = 48 + D.getD j 0 := by
      subst hS
      rw [txD_at HEd.out j (by omega), take_getD D (j + 1) j (by omega)]
    have hex : S.extract 0 j = txD (D.take j) := by
      rw [← hS, txD_take HEd.out j (by rw [List.length_take]; omega), List.take_take, Nat.min_eq_left (by omega)]
    rw [hS]
    have HSe : Hid (txD (D.take (j + 1)) = S) := hS
    clear hS
    have hd10 : D.getD j 0 < 10 := by
      have : D.getD j 0 ∈ D := by rw [List.getD_eq_getElem?_getD, List.getElem?_eq_getElem hj]; exact List.getElem_mem _
      exact HDd.out _ this
    by_cases hz : D.getD j 0 = 0
    · obtain ⟨j, rfl⟩ : ∃ i, j = i + 1 := ⟨j - 1, by
        rcases Nat.eq_zero_or_pos j with rfl | h
        · exact absurd hz HDh.out
        · omega⟩
      rw [hz] at hat
      have hati : (((S[j + 1]'(by omega)).toNat : Nat) : Int) = 48 := by rw [hat]; rfl
      have HZ2 : Hid (∀ i, j + 1 ≤ i → i < D.length → D.getD i 0 = 0) := fun i h1 h2 => by
        rcases Nat.lt_or_ge i (j + 1 + 1) with h | h
        · rw [show i = j + 1 by omega]; exact hz
        · exact HZ.out i h h2
      have hS2 : (txD (D.take (j + 1))).size = j + 1 := by rw [txD_size, List.length_take]; omega
      clear hat HZ
      go_wp2
      go_round
      case rel => exact ⟨j, by omega, rfl, HZ2.out⟩
      case measure => simp [hS2, hSs]
    · have htr : trz D = D.take (j + 1) := trz_take D (j + 1) (by omega) HZ.out (fun _ => by rw [Nat.add_sub_cancel]; exact hz)
      obtain ⟨E, hE⟩ : ∃ E, D.take (j + 1) = E := ⟨_, rfl⟩
      have hEl : E.length = j + 1 := by rw [← hE, List.length_take]; omega
      have HEd2 : Hid (∀ x ∈ E, x < 10) := by rw [← hE]; exact HEd.out
      have HSE : Hid (S = txD E) := by rw [← hE]; exact HSe.out.symm
      obtain ⟨X, hX⟩ : ∃ X : Nat, X = (192 + (D.length : Int) - s).toNat := ⟨_, rfl⟩
      have hX1 : 192 + ((D.length : Int) - s) = (X : Int) := by omega
      have hX2 : X < 256 := by omega
      have HP2 : Hid (P = X :: (E.map (· + 1) ++ [0])) := by show _ = _; rw [HP.out, htr, hE, ← hX]
      have hati : (((S[j]'(by omega)).toNat : Nat) : Int) = 48 + ((D.getD j 0 : Nat) : Int) := by rw [hat]; omega
      obtain ⟨d, hd⟩ : ∃ d, d = D.getD j 0 := ⟨_, rfl⟩
      rw [← hd] at hati hz hd10
      have hne48 : ((48 + (d : Int)) == 48) = false := beq_eq_false_iff_ne.2 (by omega)
      have hO : Own (w2.alloc (.cells #[.int .u8 (X : Int)] 5)) W1.heap.size (.slice (some ⟨w2.heap.size, 0, none⟩) 1 1) [X] := own_lit w2 [X] W1.heap.size HB2.out.size (by simp)
      have HO : Hid _ := hO
      have HB3 : Hid (Below W1.heap.size W1 (w2.alloc (.cells #[.int .u8 (X : Int)] 5))) := HB2.out.alloc HB2.out.size _
      clear htr hE hat hex HSe HZ HEd hX HP hd hO hDs hDp
      go_wp2
      clear hati hne48
      go_loopw [5, 6] (fun vb i wr => ∃ c : Nat, c ≤ j + 1 ∧ i = .int .i64 (c : Int) ∧ Hid (Own wr W1.heap.size vb (X :: (E.take c).map (· + 1))) ∧ Hid (Below W1.heap.size W1 wr)) (fun _ i _ => (j + 1) - (intOf i).toNat)
      case atStart => exact ⟨0, by omega, rfl, HO.out, HB3.out⟩
      case round =>
        clear HO HB3
        obtain ⟨c, hc, rfl, HO, HB⟩ := hrel
        have hln : (X :: (E.take c).map (· + 1)).length = c + 1 := by simp [List.length_take]; omega
        by_cases hlt : c < j + 1
        · obtain ⟨y, hy⟩ : ∃ y, y = E.getD c 0 := ⟨_, rfl⟩
          have hy10 : y < 10 := by
            rw [hy, List.getD_eq_getElem?_getD, List.getElem?_eq_getElem (by omega)]
            exact HEd2.out _ (List.getElem_mem _)
          have hsi : (((S[c]'(by omega)).toNat : Nat) : Int) = 48 + (y : Int) := by
            have hcs : c < (txD E).size := by rw [txD_size]; omega
            have h1 := txD_at HEd2.out c hcs
            have h2 : (S[c]'(by omega)).toNat = ((txD E)[c]'hcs).toNat := by
              have := HSE.out
              subst this
              rfl
            rw [h2, h1, hy]
            omega
          have HT : Hid (X :: (E.take (c + 1)).map (· + 1) = (X :: (E.take c).map (· + 1)) ++ [y + 1]) := by
            show _ = _
            rw [List.take_add_one, List.getElem?_eq_getElem (by omega), Option.toList_some, List.map_append, hy, List.getD_eq_getElem?_getD, List.getElem?_eq_getElem (by omega)]
            rfl
          have hBs := HB.out.size
          obtain ⟨lk, HLK⟩ : ∃ lk, Hid (X :: (E.take c).map (· + 1) = lk) := ⟨_, rfl⟩
          rw [HLK.out] at hln HT
          have HO' : Hid (Own wr W1.heap.size u5 lk) := by rw [← HLK.out]; exact HO.out
          have hbl : Byt (wr.alloc (.cells #[.int .u8 (48 + (y : Int) - 48 + 1)] 5)) (some ⟨wr.heap.size, 0, none⟩) [y + 1] := by
            rw [show 48 + (y : Int) - 48 + 1 = ((y + 1 : Nat) : Int) by omega]
            exact byt_lit wr [y + 1]
          clear hy HO HLK
          go_wp2_with (at_builtin; go_must (refine ap_bytes rfl (.tmp 42) (.tmp 48) rfl W1.heap.size u5 lk rfl (HO'.out.alloc _) _ _ _ [y + 1] rfl rfl hbl (by simp) (by simp only [List.length_singleton]; omega) (by simp; omega) ?_))
          intro v1 x1 A1
          have HO1 : Hid (Own x1 W1.heap.size v1 (X :: (E.take (c + 1)).map (· + 1))) := by rw [HT.out]; exact A1.own
          have HBx : Hid (Below W1.heap.size W1 x1) := (Ap.after ((Below.refl _ _).alloc (Nat.le_refl _) _) A1).below HO'.out HB.out HB.out.size (Nat.le_refl _)
          clear A1 hbl HO'
          go_wp2
          go_roundw
          case rel => exact ⟨c + 1, by omega, by go_num, HO1.out, HBx.out⟩
          case measure => simp [intOf]; omega
        · obtain rfl : c = j + 1 := by omega
          rw [List.take_of_length_le (by omega)] at hln
          have HO' : Hid (Own wr W1.heap.size u5 (X :: E.map (· + 1))) := by
            have := HO.out
            rw [List.take_of_length_le (by omega)] at this
            exact this
          have hBs := HB.out.size
          clear HO
          go_wp2_with (at_builtin; go_must (refine ap_bytes rfl (.tmp 50) (.tmp 51) rfl W1.heap.size u5 (X :: E.map (· + 1)) rfl (HO'.out.alloc _) _ _ _ [0] rfl rfl (byt_lit wr [0]) (by simp) (by simp only [List.length_singleton]; omega) (by simp; omega) ?_))
          intro v1 x1 A1
          have HO1 : Hid (Own x1 W1.heap.size v1 P) := by rw [HP2.out]; exact A1.own
          have HBx : Hid (Below W1.heap.size W1 x1) := (Ap.after ((Below.refl _ _).alloc (Nat.le_refl _) _) A1).below HO'.out HB.out HB.out.size (Nat.le_refl _)
          have hPl : P.length ≤ 30 := by rw [HP2.out]; simp; omega
          have hPp : 0 < P.length := by rw [HP2.out]; simp
          clear A1 HO' HB
          obtain ⟨g, cp, rfl, hg1, hg2, hlc, hcm, _⟩ := HO1.out.form hPp
          have c1 : x1.cell? ⟨W.heap.size, 1, none⟩ = some (.int .i64 n) := (HX.out.below HBx.out HX.out.lt).cell 1
          unfold maxLen at hcm
          have HO2 : Hid (Own x1 W1.heap.size (.slice (some ⟨g, 0, none⟩) P.length cp) (trn P 0 0)) := by rw [trn_zero]; exact HO1.out
          clear HO1 HP2 HSE HEd2 hlt
          go_wp2
          clear c1
          go_loopw [7] (fun i x2 => ∃ c : Nat, c ≤ P.length ∧ (n < 0 ∨ c = 0) ∧ i = .int .i64 (c : Int) ∧ Hid (Own x2 W1.heap.size (.slice (some ⟨g, 0, none⟩) P.length cp) (trn P 0 c)) ∧ Hid (Below W1.heap.size W1 x2)) (fun i _ => P.length - (intOf i).toNat)
          case atStart => exact ⟨0, by omega, .inr rfl, rfl, HO2.out, HBx.out⟩
          case round =>
            clear HO2 HBx
            obtain ⟨c, hc, hnc, rfl, HO3, HB3⟩ := hrel
            have c1 : wr.cell? ⟨W.heap.size, 1, none⟩ = some (.int .i64 n) := (HX.out.below HB3.out HX.out.lt).cell 1
            by_cases hneg : n < 0
            · have hni : decide (n < 0) = true := decide_eq_true hneg
              by_cases hlt : c < P.length
              · have o3 := HO3.out
                have hce := World.ownsRow.cellAt (by unfold Own at o3; rw [trn_len] at o3; exact o3) c (by omega)
                rw [vals_get _ c (by rw [trn_len]; omega)] at hce
                have hfz : wr.frozen? ⟨g, c, none⟩ = false := World.ownsRow.frozenAt (by unfold Own at o3; rw [trn_len] at o3; exact o3) c
                have hv : (trn P 0 c).getD c 0 = P.getD c 0 := by
                  rw [List.getD_eq_getElem?_getD, trn_get P 0 c _ (by omega), if_neg (by omega)]; rfl
                rw [hv] at hce
                have hx := oct_get HPo.out c
                have HXo := xor_u8 _ hx
                have o4 := own_put (trn_len P 0 c) o3 c (255 - P.getD c 0)
                have hts := trn_set P 0 c
                rw [Nat.zero_add] at hts
                rw [hts] at o4
                have HO4 : Hid (Own (wr.setCell ⟨g, c, none⟩ (.int .u8 ((255 - P.getD c 0 : Nat) : Int))) W1.heap.size (.slice (some ⟨g, 0, none⟩) P.length cp) (trn P 0 (c + 1))) := o4
                have HB4 : Hid (Below W1.heap.size W1 (wr.setCell ⟨g, c, none⟩ (.int .u8 ((255 - P.getD c 0 : Nat) : Int)))) := HB3.out.setCell hg1 _
                clear o3 o4 hv hts HO3 HB3
                generalize hz : 255 - P.getD c 0 = z at *
                generalize P.getD c 0 = x at *
                go_wp2
                go_roundw
                case rel => exact ⟨c + 1, by omega, .inl hneg, by go_num, HO4.out, HB4.out⟩
                case measure => simp [intOf]; omega
              · obtain rfl : c = P.length := by omega
                have HF : Hid (Own wr W.heap.size (.slice (some ⟨g, 0, none⟩) P.length cp) (numB n s) ∧ Below W.heap.size W wr) := by
                  refine ⟨?_, HB1.out.trans (HB3.out.mono HB1.out.size)⟩
                  rw [HNb.out, if_pos hneg]
                  have h1 := trn_end [] P
                  simp only [List.nil_append, List.length_nil] at h1
                  have h2 := own_mono HO3.out HB1.out.size
                  rw [h1] at h2
                  exact h2
                clear HO3 HB3
                go_wp2
                go_ret
                exact ⟨_, rfl, HF.out⟩
            · have hni : decide (n < 0) = false := decide_eq_false hneg
              obtain rfl : c = 0 := by omega
              have HF : Hid (Own wr W.heap.size (.slice (some ⟨g, 0, none⟩) P.length cp) (numB n s) ∧ Below W.heap.size W wr) := by
                refine ⟨?_, HB1.out.trans (HB3.out.mono HB1.out.size)⟩
                rw [HNb.out, if_neg hneg]
                have h2 := own_mono HO3.out HB1.out.size
                rw [trn_zero] at h2
                exact h2
              clear HO3 HB3
              go_wp2
              go_ret
              exact ⟨_, rfl, HF.out⟩
theorem rNum (k n s : Int) (t : ByteArray) (na : Option Addr) (nl nc : Nat) (ka : Option Addr) (kl kc : Nat) (W : World) (n0 : -9223372036854775808 ≤ n) (n1 : n < 9223372036854775808) (hs0 : 0 ≤ s) (hs1 : s ≤ 18) :
    Calls Tryd.prog 37 #[.agg #[.int .i64 k, .int .i64 n, .int .i64 s, .string t, .slice na nl nc, .slice ka kl kc]] W fun e w' => ∃ v', e = .returned v' ∧ Own w' W.heap.size v' (numB n s) ∧ Below W.heap.size W w' := by
  by_cases hn : n = 0
  · subst hn
    rw [numB_zero]
    exact rNum_zero k s t na nl nc ka kl kc W
  · exact rNum_any k n s t na nl nc ka kl kc W hn n0 n1 hs0 hs1
end Go.Proofs.YtoggcabenjmnoaaDoor
