/-
  LexBlanks: blanks and remarks between words change no word.
-/
import Derived.Test.YtpfiejmhnkcjbaaGreatDoorCG20x
namespace Go.Proofs.YtpfiejmhnkcjbaaGreatDoor
open Go.RowKit Lx
set_option linter.unusedVariables false
set_option linter.unusedSimpArgs false
theorem TxP.mono {tx : List Nat → Bool} {w0 w : World} (h : TxP tx w0) (g : Below w0.heap.size w0 w) : TxP tx w := fun x hx h39 W hW => h x hx h39 W (g.trans (hW.mono g.size))
theorem NuP.mono {nu : List Nat → Bool} {w0 w : World} (h : NuP nu w0) (g : Below w0.heap.size w0 w) : NuP nu w := fun x hx W hW => h x hx W (g.trans (hW.mono g.size))
theorem bts_appL (s t : ByteArray) : bts (s ++ t) = bts s ++ bts t := by
  unfold bts
  rw [ByteArray.data_append, Array.toList_append, List.map_append]
theorem lexA_tup {w : World} {tx nu : List Nat → Bool} {r : List Nat} {e : Ending} {w' : World} (h : LexA w tx nu r e w') : ∃ (v : Value) (p E : Int), e = .returned (.tuple #[v, .int .i64 p, .int .i64 E]) := by
  unfold LexA at h
  split at h
  · exact ⟨_, _, _, h⟩
  · obtain ⟨v, h, _⟩ := h
    exact ⟨_, _, _, h⟩
theorem lexA_bad {w : World} {tx nu : List Nat → Bool} {r : List Nat} {e : Ending} {w' : World} (h : LexA w tx nu r e w') {p : Nat} (hp : (lexR tx nu r 0).2 = some p) : e = .returned (.tuple #[.slice none 0 0, .int .i64 (p : Int), .int .i64 12]) := by
  unfold LexA at h
  rw [hp] at h
  exact h
theorem lexA_ok {w : World} {tx nu : List Nat → Bool} {r : List Nat} {e : Ending} {w' : World} (h : LexA w tx nu r e w') (hp : (lexR tx nu r 0).2 = none) : ∃ v, e = .returned (.tuple #[v, .int .i64 0, .int .i64 0]) ∧ TkS w' v (lexR tx nu r 0).1 := by
  unfold LexA at h
  rw [hp] at h
  obtain ⟨v, e, hR⟩ := h
  exact ⟨v, e, TkR.tks hR⟩
/-- A row that is not empty. -/
theorem TkS.row {w : World} {v : Value} {L : List Tk} (h : TkS w v L) (hne : L ≠ []) : ∃ b c, v = .slice (some ⟨b, 0, none⟩) L.length c ∧ b < w.heap.size ∧ w.rangeAt b 0 (tkC L) := by
  obtain ⟨a, c, e, h | ⟨b, e2, hb, hr⟩⟩ := h
  · exact absurd h hne
  · exact ⟨b, c, by rw [e, e2], hb, hr⟩
set_option maxRecDepth 8000 in
set_option maxHeartbeats 4000000 in
theorem blanks_walk (a b : ByteArray) (hsa : a.size ≤ 1152921504606846976) (hsb : b.size ≤ 1152921504606846976) (w : World) (hX : ∃ tx, TxP tx w) (hN : ∃ nu, NuP nu w ∧ NuDot nu) : Calls Tryz.prog 5 #[.string a, .string b] w fun e w' => e = .returned (.bool true) ∧ Hid (Below w.heap.size w w') := by
  obtain ⟨tx, hX⟩ := hX
  obtain ⟨nu, hN, hD⟩ := hN
  have x0 : wrap64 ((a.size : Int) + (b.size : Int)) = (a.size : Int) + (b.size : Int) := by simp only [wrap64]; omega
  by_cases hbig : 1500 < a.size + b.size
  · have x1 : (1500 : Int) < (a.size : Int) + (b.size : Int) := by omega
    clear hX hN hD
    go_enter Tryz.func5, Tryz.ntmps5
    go_wp2
    go_ret
    exact ⟨rfl, Below.refl _ _⟩
  have x1 : ¬ (1500 : Int) < (a.size : Int) + (b.size : Int) := by omega
  have hsz : (a ++ ⟨#[10, 9, 45, 45, 32, 97, 32, 114, 101, 109, 97, 114, 107, 32, 39, 32, 34, 32, 10, 32]⟩ ++ b).size ≤ 4096 := by
    rw [ByteArray.size_append, ByteArray.size_append]
    have : (⟨#[10, 9, 45, 45, 32, 97, 32, 114, 101, 109, 97, 114, 107, 32, 39, 32, 34, 32, 10, 32]⟩ : ByteArray).size = 20 := rfl
    omega
  have hbc : bts (a ++ ⟨#[10, 9, 45, 45, 32, 97, 32, 114, 101, 109, 97, 114, 107, 32, 39, 32, 34, 32, 10, 32]⟩ ++ b) = bts a ++ (sepB ++ bts b) := by
    rw [bts_appL, bts_appL, List.append_assoc]
    rfl
  have KA : ∀ W, Below w.heap.size w W → Calls Tryz.prog 9 #[.string a] W fun e w' => LexA W tx nu (bts a) e w' ∧ Hid (Below W.heap.size W w') := fun W h => lex_any tx nu a (by omega) W (fun _ => hX.mono h) (fun _ => ⟨hN.mono h, hD⟩)
  have KB : ∀ W, Below w.heap.size w W → Calls Tryz.prog 9 #[.string b] W fun e w' => LexA W tx nu (bts b) e w' ∧ Hid (Below W.heap.size W w') := fun W h => lex_any tx nu b (by omega) W (fun _ => hX.mono h) (fun _ => ⟨hN.mono h, hD⟩)
  have KC : ∀ W, Below w.heap.size w W → Calls Tryz.prog 9 #[.string (a ++ ⟨#[10, 9, 45, 45, 32, 97, 32, 114, 101, 109, 97, 114, 107, 32, 39, 32, 34, 32, 10, 32]⟩ ++ b)] W fun e w' => LexA W tx nu (bts a ++ (sepB ++ bts b)) e w' ∧ Hid (Below W.heap.size W w') := fun W h => by
    have := lex_any tx nu _ hsz W (fun _ => hX.mono h) (fun _ => ⟨hN.mono h, hD⟩)
    rw [hbc] at this
    exact this
  have KA : Hid _ := KA
  have KB : Hid _ := KB
  have KC : Hid _ := KC
  have hLa : (lexR tx nu (bts a) 0).1.length ≤ a.size + 1 := by
    have := lexR_len tx nu (bts a).length (bts a) 0 (Nat.le_refl _)
    rwa [bts_len] at this
  have hLb : (lexR tx nu (bts b) 0).1.length ≤ b.size + 1 := by
    have := lexR_len tx nu (bts b).length (bts b) 0 (Nat.le_refl _)
    rwa [bts_len] at this
  have HSS : Hid (a.size + b.size ≤ 1500) := Nat.le_of_not_lt hbig
  clear hX hN hD hbig hsz hbc
  go_enter Tryz.func5, Tryz.ntmps5
  go_wp2_with fail
  refine (KA.out _ (Below.refl _ _)).mono ?_
  rintro e w1 ⟨hA, q⟩
  have HB1 : Hid (Below w.heap.size w w1) := q.out
  clear q
  cases hqa : (lexR tx nu (bts a) 0).2 with
  | some p =>
    have e1 := lexA_bad hA hqa
    subst e1
    clear hA hLa hLb
    go_wp2_with fail
    refine (KB.out _ HB1.out).mono ?_
    rintro e w2 ⟨hA, q⟩
    have HB2 : Hid (Below w.heap.size w w2) := HB1.out.trans (q.out.mono HB1.out.size)
    obtain ⟨v2, p2, E2, rfl⟩ := lexA_tup hA
    clear q hA
    go_wp2_with fail
    refine (KC.out _ HB2.out).mono ?_
    rintro e w3 ⟨hA, q⟩
    have HB3 : Hid (Below w.heap.size w w3) := HB2.out.trans (q.out.mono HB2.out.size)
    obtain ⟨v3, p3, E3, rfl⟩ := lexA_tup hA
    clear q hA
    go_wp2_with fail
    refine (known_any _).mono ?_
    rintro e w4 ⟨rfl, q⟩
    have HF : Hid (Below w.heap.size w w4) := HB3.out.trans (q.out.mono HB3.out.size)
    clear q
    go_wp2
    go_ret
    exact ⟨rfl, HF.out⟩
  | none =>
  obtain ⟨v1, e1, hT1⟩ := lexA_ok hA hqa
  subst e1
  have HT1 : Hid (TkS w1 v1 (lexR tx nu (bts a) 0).1) := hT1
  clear hA hT1
  go_wp2_with fail
  refine (KB.out _ HB1.out).mono ?_
  rintro e w2 ⟨hA, q⟩
  have HB2 : Hid (Below w.heap.size w w2) := HB1.out.trans (q.out.mono HB1.out.size)
  have HT1 : Hid (TkS w2 v1 (lexR tx nu (bts a) 0).1) := HT1.out.below q.out
  clear q
  cases hqb : (lexR tx nu (bts b) 0).2 with
  | some p =>
    have e1 := lexA_bad hA hqb
    subst e1
    clear hA hLa hLb
    go_wp2_with fail
    refine (KC.out _ HB2.out).mono ?_
    rintro e w3 ⟨hA, q⟩
    have HB3 : Hid (Below w.heap.size w w3) := HB2.out.trans (q.out.mono HB2.out.size)
    obtain ⟨v3, p3, E3, rfl⟩ := lexA_tup hA
    clear q hA
    go_wp2_with fail
    refine (known_any _).mono ?_
    rintro e w4 ⟨rfl, q⟩
    have HF : Hid (Below w.heap.size w w4) := HB3.out.trans (q.out.mono HB3.out.size)
    clear q
    go_wp2
    go_ret
    exact ⟨rfl, HF.out⟩
  | none =>
  obtain ⟨v2, e1, hT2⟩ := lexA_ok hA hqb
  subst e1
  have HT2 : Hid (TkS w2 v2 (lexR tx nu (bts b) 0).1) := hT2
  clear hA hT2
  go_wp2_with fail
  refine (KC.out _ HB2.out).mono ?_
  rintro e w3 ⟨hA, q⟩
  have HB3 : Hid (Below w.heap.size w w3) := HB2.out.trans (q.out.mono HB2.out.size)
  obtain ⟨ts, hl, hn⟩ := lexR_blanks tx nu (bts a) (bts b) hqa hqb
  obtain ⟨v3, e1, hT3⟩ := lexA_ok hA (by rw [hn])
  subst e1
  have hm0 := ((lexR_rise tx nu (bts b).length (bts b) 0 (Nat.le_refl _)).2 hqb).1
  obtain ⟨M, hM⟩ : ∃ M, (lexR tx nu (bts b) 0).1 = M := ⟨_, rfl⟩
  rw [hM] at hn hm0 HT2 hLb
  rw [hn] at hT3
  dsimp only at hT3
  rw [hl] at HT1 hLa
  obtain ⟨b1, c1, e1, hb1, hr1⟩ := TkS.row (HT1.out.below q.out) (by simp)
  obtain ⟨b2, c2, e2, hb2, hr2⟩ := TkS.row (HT2.out.below q.out) hm0
  obtain ⟨bn, cn, e3, hbn, hrn⟩ := TkS.row hT3 (by
    cases M with
    | nil => exact absurd rfl hm0
    | cons x y => simp)
  obtain ⟨nl, hnl⟩ : ∃ nl, ts.length = nl := ⟨_, rfl⟩
  obtain ⟨nm, hnm⟩ : ∃ nm, M.length = nm := ⟨_, rfl⟩
  rw [List.length_append, List.length_singleton, hnl] at e1 hLa
  rw [hnm] at e2 hLb
  rw [List.length_append, List.length_map, hnl, hnm] at e3
  subst e1 e2 e3
  have hs2 : a.size + b.size ≤ 1500 := HSS.out
  have HR1 : Hid (w3.rangeAt b1 0 (tkC (ts ++ [(8, [], (bts a).length)])) ∧ b1 < w3.heap.size) := ⟨hr1, hb1⟩
  have HR2 : Hid (w3.rangeAt b2 0 (tkC M) ∧ b2 < w3.heap.size) := ⟨hr2, hb2⟩
  have HRn : Hid (w3.rangeAt bn 0 (tkC (ts ++ M.map (fun x => (x.1, x.2.1, x.2.2 + ((bts a).length + 20))))) ∧ bn < w3.heap.size) := ⟨hrn, hbn⟩
  have HNL : Hid (ts.length = nl ∧ M.length = nm) := ⟨hnl, hnm⟩
  have hnls : nl + nm ≤ 10000 := by omega
  clear q hA hT3 HT1 HT2 hl hn hM hm0 hr1 hr2 hrn hb1 hb2 hbn hnl hnm hqa hqb hLa hLb HB1 HB2 KA KB KC hs2
  go_wp2
  go_loopw [14] (fun iv wr => ∃ i : Nat, i ≤ nl + nm ∧ iv = .int .i64 (i : Int) ∧ Hid (Below w3.heap.size w3 wr)) (fun iv _ => nl + nm - (intOf iv).toNat)
  case atStart => exact ⟨0, Nat.zero_le _, rfl, Below.refl _ _⟩
  case round =>
    obtain ⟨i, hi, rfl, HW⟩ := hrel
    by_cases hlt : i < nl + nm
    · have y1 : (i : Int) < (nl : Int) + (nm : Int) := by omega
      by_cases hil : i < nl
      · obtain ⟨x, hx⟩ : ∃ x, ts[i]? = some x := ⟨_, List.getElem?_eq_getElem (by rw [HNL.out.1]; exact hil)⟩
        have hx1 : (ts ++ [(8, [], (bts a).length)])[i]? = some x := by rw [List.getElem?_append_left (by rw [HNL.out.1]; exact hil), hx]
        have hxn : (ts ++ M.map (fun x => (x.1, x.2.1, x.2.2 + ((bts a).length + 20))))[i]? = some x := by rw [List.getElem?_append_left (by rw [HNL.out.1]; exact hil), hx]
        have HX1 : Hid (wr.rangeAt b1 (i * 3) (tk1 x) ∧ b1 < wr.heap.size) := ⟨range_belowP (tk_range HR1.out.1 hx1) HR1.out.2 HW.out, Nat.lt_of_lt_of_le HR1.out.2 HW.out.size⟩
        have HXN : Hid (w3.rangeAt bn (i * 3) (tk1 x)) := tk_range HRn.out.1 hxn
        clear hx1 hxn hx
        have y2 : (i : Int) < (nl : Int) := by omega
        obtain ⟨xk, xt, xp⟩ := x
        obtain ⟨xq, hxq⟩ : ∃ xq, xq = xp := ⟨_, rfl⟩
        subst hxq
        go_wp2_with (refine al_zero rfl 32 rfl tkZ zTk ?_)
        intro g w4 hg bz gr
        go_wp2_with (refine st_all rfl 32 (.tmp 15) (.tmp 74) rfl g 32 tkZ tkZ rfl rfl bz rfl sTk (one_k 0 []) ?_)
        intro w5 b5 g5
        have HQ5 : Hid (Below wr.heap.size wr w5) := below_new gr hg g5
        have HK5 : Hid (Blk w5 g 32 tkZ) := b5
        have HX5 : Hid (w5.rangeAt b1 (i * 3) (tk1 (xk, xt, xq))) := range_belowP HX1.out.1 HX1.out.2 HQ5.out
        clear bz gr b5 g5 HX1
        go_wp2_with (first | refine lx_ld rfl 32 (.tmp 82) rfl b1 (i * 3) rfl [.int .i64 (xk : Int), .string (ofB xt), .int .i64 (xq : Int)] _ HX5.out Tryz.underlying32 rfl sTk ?_ | refine st_all rfl 32 (.tmp 15) (.tmp 83) rfl g 32 tkZ (tk1 (xk, xt, xq)) rfl rfl HK5.out rfl sTk (by simp [tk1]; exact ⟨rfl, rfl, rfl⟩) ?_)
        intro w6 b6 g6
        have HQ6 : Hid (Below wr.heap.size wr w6) := HQ5.out.grown g6 HQ5.out.size (fun k e => by injection e with e; omega)
        have HK6 : Hid (Blk w6 g 32 (tk1 (xk, xt, xq))) := b6
        have HW6 : Hid (Below w3.heap.size w3 w6) := HW.out.trans (HQ6.out.mono HW.out.size)
        clear b6 g6 HQ5 HK5 HX5 HQ6
        obtain ⟨C, hC⟩ : ∃ C : World → Prop, C = fun W => Below w6.heap.size w6 W := ⟨_, rfl⟩
        have C0 : Hid (C { w6 with drawn := w6.drawn + 1 }) := by rw [hC]; exact Below.drew (Below.refl _ _)
        have CO : Hid (∀ W, C W → Below w6.heap.size w6 W) := fun W h => by rw [hC] at h; exact h
        have hCp : ∀ p : Prop, (∀ W, C W → p) ↔ p := fun p => ⟨fun h => h _ C0.out, fun h _ _ => h⟩
        have HN6 : Hid (w6.rangeAt bn (i * 3) (tk1 (xk, xt, xq))) := range_belowP HXN.out HRn.out.2 HW6.out
        have hbn6 : bn < w6.heap.size := Nat.lt_of_lt_of_le HRn.out.2 HW6.out.size
        have F1 : Hid (∀ W, C W → W.cell? ⟨bn, i * 3, none⟩ = some (.int .i64 (xk : Int))) := fun W h => by
          rw [hC] at h
          exact range_belowP HN6.out hbn6 h 0 _ rfl
        have F2 : Hid (∀ W, C W → W.cell? ⟨bn, i * 3 + 1, none⟩ = some (.string (ofB xt))) := fun W h => by
          rw [hC] at h
          exact range_belowP HN6.out hbn6 h 1 _ rfl
        have F3 : Hid (∀ W, C W → W.cell? ⟨g, 0, none⟩ = some (.int .i64 (xk : Int))) := fun W h => by
          rw [hC] at h
          exact (HK6.out.below h HK6.out.lt).cell 0
        have F4 : Hid (∀ W, C W → W.cell? ⟨g, 1, none⟩ = some (.string (ofB xt))) := fun W h => by
          rw [hC] at h
          exact (HK6.out.below h HK6.out.lt).cell 1
        clear hC
        go_wp2_with fail
        refine wp_region_quiet (C := C) (by kernel_rfl) (by kernel_rfl) C0.out ?_
        change wpQuiet _ _ _ _ (_ :: _ :: _ :: _ :: _ :: _ :: _ :: _ :: _ :: _ :: _ :: _ :: _ :: _ :: _ :: _ :: _ :: _ :: []) _
        repeat (first
          | go_big_quiet_skip
          | (go_big_quiet_want
             first
             | (refine lx_ixt (.tmp 92) (.tmp 93) rfl bn (nl + nm) cn i rfl rfl hlt ?_
                simp only [Act.put, List.setIfInBounds_toArray, List.set_cons_zero, List.set_cons_succ]
                go_big_quiet_on)
             | (refine lx_ixt (.tmp 101) (.tmp 102) rfl bn (nl + nm) cn i rfl rfl hlt ?_
                simp only [Act.put, List.setIfInBounds_toArray, List.set_cons_zero, List.set_cons_succ]
                go_big_quiet_on)
             | (refine lx_cell 3 (.inl rfl) (.tmp 95) rfl bn (i * 3) rfl _ F1.out ?_
                simp only [Act.put, List.setIfInBounds_toArray, List.set_cons_zero, List.set_cons_succ]
                go_big_quiet_on)
             | (refine lx_cell 3 (.inl rfl) (.tmp 97) rfl g 0 rfl _ F3.out ?_
                simp only [Act.put, List.setIfInBounds_toArray, List.set_cons_zero, List.set_cons_succ]
                go_big_quiet_on)
             | (refine lx_cell 9 (.inr rfl) (.tmp 104) rfl bn (i * 3 + 1) rfl _ F2.out ?_
                simp only [Act.put, List.setIfInBounds_toArray, List.set_cons_zero, List.set_cons_succ]
                go_big_quiet_on)
             | (refine lx_cell 9 (.inr rfl) (.tmp 106) rfl g 1 rfl _ F4.out ?_
                simp only [Act.put, List.setIfInBounds_toArray, List.set_cons_zero, List.set_cons_succ]
                go_big_quiet_on)
             | (go_big_quiet_op
                go_big_quiet_on)))
        refine wpQuiet_nil ?_
        intro w9 h9
        have HW9 : Hid (Below w3.heap.size w3 w9) := HW6.out.trans ((CO.out _ h9).mono HW6.out.size)
        clear h9 hCp C0 F1 F2 F3 F4 CO
        go_wp2
        go_roundw
        case rel => exact ⟨i + 1, by omega, by go_num, HW9.out⟩
        case measure => simp [intOf]; omega
      · obtain ⟨j, hj⟩ : ∃ j, i = nl + j := ⟨i - nl, by omega⟩
        obtain ⟨x, hx⟩ : ∃ x, M[j]? = some x := ⟨_, List.getElem?_eq_getElem (by rw [HNL.out.2]; omega)⟩
        have hxn : (ts ++ M.map (fun x => (x.1, x.2.1, x.2.2 + ((bts a).length + 20))))[i]? = some (x.1, x.2.1, x.2.2 + ((bts a).length + 20)) := by
          rw [List.getElem?_append_right (by rw [HNL.out.1]; omega), HNL.out.1, hj, Nat.add_sub_cancel_left, List.getElem?_map, hx]
          rfl
        have HX1 : Hid (wr.rangeAt b2 (j * 3) (tk1 x) ∧ b2 < wr.heap.size) := ⟨range_belowP (tk_range HR2.out.1 hx) HR2.out.2 HW.out, Nat.lt_of_lt_of_le HR2.out.2 HW.out.size⟩
        obtain ⟨xk, xt, xp⟩ := x
        obtain ⟨xq, hxq⟩ : ∃ xq, xp + ((bts a).length + 20) = xq := ⟨_, rfl⟩
        dsimp only at hxn
        rw [hxq] at hxn
        have HXN : Hid (w3.rangeAt bn (i * 3) (tk1 (xk, xt, xq))) := tk_range HRn.out.1 hxn
        clear hxn hx hxq
        have y2 : ¬ (i : Int) < (nl : Int) := by omega
        have y3 : wrap64 ((i : Int) - ((nl : Int) + 1)) = (i : Int) - ((nl : Int) + 1) := by simp only [wrap64]; omega
        have y4 : wrap64 ((i : Int) - ((nl : Int) + 1) + 1) = (j : Int) := by simp only [wrap64]; omega
        have y5 : (i : Int) - ((nl : Int) + 1) + 1 = (j : Int) := by omega
        have hjm : j < nm := by omega
        have y6 : (j : Int) < (nm : Int) := by omega
        clear hj
        go_wp2_with (refine al_zero rfl 32 rfl tkZ zTk ?_)
        intro g w4 hg bz gr
        go_wp2_with (refine st_all rfl 32 (.tmp 15) (.tmp 74) rfl g 32 tkZ tkZ rfl rfl bz rfl sTk (one_k 0 []) ?_)
        intro w5 b5 g5
        have HQ5 : Hid (Below wr.heap.size wr w5) := below_new gr hg g5
        have HK5 : Hid (Blk w5 g 32 tkZ) := b5
        have HX5 : Hid (w5.rangeAt b2 (j * 3) (tk1 (xk, xt, xp))) := range_belowP HX1.out.1 HX1.out.2 HQ5.out
        clear bz gr b5 g5 HX1
        go_wp2_with (first | refine lx_ld rfl 32 (.tmp 90) rfl b2 (j * 3) rfl [.int .i64 (xk : Int), .string (ofB xt), .int .i64 (xp : Int)] _ HX5.out Tryz.underlying32 rfl sTk ?_ | refine st_all rfl 32 (.tmp 15) (.tmp 91) rfl g 32 tkZ (tk1 (xk, xt, xp)) rfl rfl HK5.out rfl sTk (by simp [tk1]; exact ⟨rfl, rfl, rfl⟩) ?_)
        intro w6 b6 g6
        have HQ6 : Hid (Below wr.heap.size wr w6) := HQ5.out.grown g6 HQ5.out.size (fun k e => by injection e with e; omega)
        have HK6 : Hid (Blk w6 g 32 (tk1 (xk, xt, xp))) := b6
        have HW6 : Hid (Below w3.heap.size w3 w6) := HW.out.trans (HQ6.out.mono HW.out.size)
        clear b6 g6 HQ5 HK5 HX5 HQ6
        obtain ⟨C, hC⟩ : ∃ C : World → Prop, C = fun W => Below w6.heap.size w6 W := ⟨_, rfl⟩
        have C0 : Hid (C { w6 with drawn := w6.drawn + 1 }) := by rw [hC]; exact Below.drew (Below.refl _ _)
        have CO : Hid (∀ W, C W → Below w6.heap.size w6 W) := fun W h => by rw [hC] at h; exact h
        have hCp : ∀ p : Prop, (∀ W, C W → p) ↔ p := fun p => ⟨fun h => h _ C0.out, fun h _ _ => h⟩
        have HN6 : Hid (w6.rangeAt bn (i * 3) (tk1 (xk, xt, xq))) := range_belowP HXN.out HRn.out.2 HW6.out
        have hbn6 : bn < w6.heap.size := Nat.lt_of_lt_of_le HRn.out.2 HW6.out.size
        have F1 : Hid (∀ W, C W → W.cell? ⟨bn, i * 3, none⟩ = some (.int .i64 (xk : Int))) := fun W h => by
          rw [hC] at h
          exact range_belowP HN6.out hbn6 h 0 _ rfl
        have F2 : Hid (∀ W, C W → W.cell? ⟨bn, i * 3 + 1, none⟩ = some (.string (ofB xt))) := fun W h => by
          rw [hC] at h
          exact range_belowP HN6.out hbn6 h 1 _ rfl
        have F3 : Hid (∀ W, C W → W.cell? ⟨g, 0, none⟩ = some (.int .i64 (xk : Int))) := fun W h => by
          rw [hC] at h
          exact (HK6.out.below h HK6.out.lt).cell 0
        have F4 : Hid (∀ W, C W → W.cell? ⟨g, 1, none⟩ = some (.string (ofB xt))) := fun W h => by
          rw [hC] at h
          exact (HK6.out.below h HK6.out.lt).cell 1
        clear hC
        go_wp2_with fail
        refine wp_region_quiet (C := C) (by kernel_rfl) (by kernel_rfl) C0.out ?_
        change wpQuiet _ _ _ _ (_ :: _ :: _ :: _ :: _ :: _ :: _ :: _ :: _ :: _ :: _ :: _ :: _ :: _ :: _ :: _ :: _ :: _ :: []) _
        repeat (first
          | go_big_quiet_skip
          | (go_big_quiet_want
             first
             | (refine lx_ixt (.tmp 92) (.tmp 93) rfl bn (nl + nm) cn i rfl rfl hlt ?_
                simp only [Act.put, List.setIfInBounds_toArray, List.set_cons_zero, List.set_cons_succ]
                go_big_quiet_on)
             | (refine lx_ixt (.tmp 101) (.tmp 102) rfl bn (nl + nm) cn i rfl rfl hlt ?_
                simp only [Act.put, List.setIfInBounds_toArray, List.set_cons_zero, List.set_cons_succ]
                go_big_quiet_on)
             | (refine lx_cell 3 (.inl rfl) (.tmp 95) rfl bn (i * 3) rfl _ F1.out ?_
                simp only [Act.put, List.setIfInBounds_toArray, List.set_cons_zero, List.set_cons_succ]
                go_big_quiet_on)
             | (refine lx_cell 3 (.inl rfl) (.tmp 97) rfl g 0 rfl _ F3.out ?_
                simp only [Act.put, List.setIfInBounds_toArray, List.set_cons_zero, List.set_cons_succ]
                go_big_quiet_on)
             | (refine lx_cell 9 (.inr rfl) (.tmp 104) rfl bn (i * 3 + 1) rfl _ F2.out ?_
                simp only [Act.put, List.setIfInBounds_toArray, List.set_cons_zero, List.set_cons_succ]
                go_big_quiet_on)
             | (refine lx_cell 9 (.inr rfl) (.tmp 106) rfl g 1 rfl _ F4.out ?_
                simp only [Act.put, List.setIfInBounds_toArray, List.set_cons_zero, List.set_cons_succ]
                go_big_quiet_on)
             | (go_big_quiet_op
                go_big_quiet_on)))
        refine wpQuiet_nil ?_
        intro w9 h9
        have HW9 : Hid (Below w3.heap.size w3 w9) := HW6.out.trans ((CO.out _ h9).mono HW6.out.size)
        clear h9 hCp C0 F1 F2 F3 F4 CO
        go_wp2
        go_roundw
        case rel => exact ⟨i + 1, by omega, by go_num, HW9.out⟩
        case measure => simp [intOf]; omega
    · have y1 : ¬ (i : Int) < (nl : Int) + (nm : Int) := by omega
      have HBB : Hid (Below w.heap.size w wr) := HB3.out.trans (HW.out.mono HB3.out.size)
      go_wp2_with fail
      refine (known_any _).mono ?_
      rintro e w2 ⟨rfl, q⟩
      have HF : Hid (Below w.heap.size w w2) := HBB.out.trans (q.out.mono HBB.out.size)
      clear q
      go_wp2
      go_ret
      exact ⟨rfl, HF.out⟩
end Go.Proofs.YtpfiejmhnkcjbaaGreatDoor
