/-
  The program's lex: the next token; blanks and remarks.
-/
import Derived.Test.YtpfiejmhnkcjbaaGreatDoorFLyj
namespace Go.Proofs.YtpfiejmhnkcjbaaGreatDoor
open Go.RowKit Lx
set_option linter.unusedVariables false
set_option linter.unusedSimpArgs false
section
variable {tx nu : List Nat → Bool} {c : Nat} {q : List Nat}
theorem ans_word (h0 : isBl c = false) (h : isLt c = true) : ans (Lx.step tx nu (c :: q)) = if isW (sml ((c :: q).takeWhile isNm)) then (2, sml ((c :: q).takeWhile isNm), ((c :: q).takeWhile isNm).length) else (1, (c :: q).takeWhile isNm, ((c :: q).takeWhile isNm).length) := by
  rw [st_word h0 h]
  split <;> rfl
theorem ans_quo : ans (Lx.step tx nu (34 :: q)) = if q.length = (q.takeWhile (· != 34)).length ∨ (q.takeWhile (· != 34)).length < 1 ∨ 40 < (q.takeWhile (· != 34)).length then (0, [], 0) else (1, q.takeWhile (· != 34), (q.takeWhile (· != 34)).length + 2) := by
  rw [st_quo]
  split <;> rfl
theorem ans_sgn (h0 : isBl c = false) (h1 : ¬ (c = 45 ∧ q.head? = some 45)) (h2 : isLt c = false) (h3 : ¬ c = 34) (h4 : isDg c = false) (h5 : ¬ c = 39) (h6 : ¬ c = 63) : ans (Lx.step tx nu (c :: q)) = sgA (c :: q) := by
  rw [st_sgn h0 h1 h2 h3 h4 h5 h6]
  unfold sgA
  split <;> rfl
end
set_option maxRecDepth 8000 in
set_option maxHeartbeats 4000000 in
theorem next_any (tx nu : List Nat → Bool) (w0 : World) (s : ByteArray) (hs : s.size ≤ 4096) (h0 : s.size ≠ 0) (hk : NoSk (bts s)) (hT : 39 ∈ bts s → TxP tx w0) (hN : (∃ d ∈ bts s, isDg d = true) → NuP nu w0 ∧ NuDot nu) (w : World) (hw : Below w0.heap.size w0 w) :
    Calls Tryz.prog 18 #[.string s] w fun e w' => e = AnsE (ans (Lx.step tx nu (bts s))) ∧ Hid (Below w.heap.size w w') := by
  have hlt : 0 < s.size := by omega
  have hcq := bts_dropL s 0 hlt
  rw [List.drop_zero] at hcq
  have hoc := oct_getD s 0
  have hix0 : ∀ W, (Instr.index 9 (.string s) (.int .i64 0)).run Tryz.prog W = .ok (.int .u8 (((bts s).getD 0 0 : Nat) : Int)) W := fun W => idxL s 0 hlt W
  obtain ⟨c, hc⟩ : ∃ c, (bts s).getD 0 0 = c := ⟨_, rfl⟩
  obtain ⟨q, hq⟩ : ∃ q, (bts s).drop 1 = q := ⟨_, rfl⟩
  rw [Nat.zero_add, hc, hq] at hcq
  rw [hc] at hoc hix0
  obtain ⟨hb, hr⟩ := hk c q hcq
  have HS : Hid (bts s = c :: q) := hcq
  obtain ⟨X, HX⟩ : ∃ X : Nat × List Nat × Nat, Hid (ans (Lx.step tx nu (bts s)) = X) := ⟨_, rfl⟩
  rw [HX.out]
  have KHl : ∀ W, Calls Tryz.prog 34 #[.agg (cC 0 cLt).toArray, .int .u8 (c : Int)] W fun e w' => e = .returned (.bool (isLt c)) ∧ Hid (Below W.heap.size W w') := fun W => by
    have := has_any 0 cLt c (by decide) (by decide) hoc W
    rw [inC_lt _ hoc] at this
    exact this
  have KHd : ∀ W, Calls Tryz.prog 34 #[.agg (cC cDg 0).toArray, .int .u8 (c : Int)] W fun e w' => e = .returned (.bool (isDg c)) ∧ Hid (Below W.heap.size W w') := fun W => by
    have := has_any cDg 0 c (by decide) (by decide) hoc W
    rw [inC_dg _ hoc] at this
    exact this
  have hBW : ∀ W, Below w.heap.size w W → Below w0.heap.size w0 W := fun W h => hw.trans (h.mono hw.size)
  have HBW : Hid (∀ W, Below w.heap.size w W → Below w0.heap.size w0 W) := hBW
  have HOT : Hid (39 ∈ bts s → TxP tx w0) := hT
  have HON : Hid ((∃ d ∈ bts s, isDg d = true) → NuP nu w0 ∧ NuDot nu) := hN
  have hmem : c ∈ bts s := by rw [hcq]; exact List.mem_cons_self
  have HM : Hid (c ∈ bts s) := hmem
  clear hcq hc hq hk hBW hT hN hmem
  go_enter Tryz.func18, Tryz.ntmps18
  go_wp2_with (refine al_zero rfl 32 rfl tkZ zTk ?_)
  intro g w1 hg bz gr
  have HZ1 : Hid (Blk w1 g 32 tkZ) := bz
  have HB1 : Hid (Below w.heap.size w w1) := (Below.refl _ _).grown gr (Nat.le_refl _) (fun k e => by cases e)
  clear bz gr
  have hix := hix0 w1
  clear hix0
  cases hl : isLt c with
  | true =>
    rw [hl] at KHl
    have KW : ∀ W, Calls Tryz.prog 35 #[.string s] W fun e w' => e = AnsE X ∧ Hid (Below W.heap.size W w') := fun W => by
      have := word_any s hs W
      rw [HS.out, ← ans_word (tx := tx) (nu := nu) hb hl, ← HS.out, HX.out] at this
      exact this
    clear KHd HX HS hr hb hl
    go_wp2_with fail
    refine (letters_any _).mono ?_
    rintro e w2 ⟨rfl, q⟩
    have HZ2 : Hid (Blk w2 g 32 tkZ) := HZ1.out.below (Hid.out q) HZ1.out.lt
    have HB2 : Hid (Below w.heap.size w w2) := HB1.out.trans ((Hid.out q).mono HB1.out.size)
    clear q HZ1 HB1
    go_wp2_with fail
    refine (KHl _).mono ?_
    rintro e w3 ⟨rfl, q⟩
    have HZ3 : Hid (Blk w3 g 32 tkZ) := HZ2.out.below (Hid.out q) HZ2.out.lt
    have HB3 : Hid (Below w.heap.size w w3) := HB2.out.trans ((Hid.out q).mono HB2.out.size)
    clear q HZ2 HB2
    go_wp2_with fail
    refine (KW _).mono ?_
    rintro e w4 ⟨rfl, q⟩
    have HZ4 : Hid (Blk w4 g 32 tkZ) := HZ3.out.below (Hid.out q) HZ3.out.lt
    have HB4 : Hid (Below w.heap.size w w4) := HB3.out.trans ((Hid.out q).mono HB3.out.size)
    clear q HZ3 HB3
    dsimp only [AnsE]
    go_wp2_with (refine st_all rfl 32 (.tmp 2) (.tmp 13) rfl g 32 tkZ (tk1 (X.1, X.2.1, 0)) rfl rfl HZ4.out rfl sTk (one_k _ _) ?_)
    intro w98 b98 g98
    have HBB : Hid (Below w.heap.size w w98) := HB4.out.grown g98 HB4.out.size (fun k e => by injection e with e; omega)
    have HZZ : Hid (Blk w98 g 32 (tk1 (X.1, X.2.1, 0))) := b98
    clear b98 g98 HZ4 HB4
    go_wp2
    refine bodyPost_ret (res_two rfl _ g 32 _ _ rfl HZZ.out Tryz.underlying32 rfl sTk) rfl ?_
    exact ⟨rfl, HBB.out⟩
  | false =>
    rw [hl] at KHl
    cases hd : isDg c with
    | true =>
      rw [hd] at KHd
      obtain ⟨hNP, hND⟩ := HON.out ⟨c, HM.out, hd⟩
      have KW : ∀ W, Below w.heap.size w W → Calls Tryz.prog 37 #[.string s] W fun e w' => e = AnsE X ∧ Hid (Below W.heap.size W w') := fun W hW => by
        have := pnumber_any tx nu hND w0 hNP s hs c q HS.out hd W (HBW.out W hW)
        rw [HX.out] at this
        exact this
      have KW : Hid (∀ W, Below w.heap.size w W → Calls Tryz.prog 37 #[.string s] W fun e w' => e = AnsE X ∧ Hid (Below W.heap.size W w')) := KW
      clear HX HS hr hb hl hd hNP hND HON HOT
      go_wp2_with fail
      refine (letters_any _).mono ?_
      rintro e w2 ⟨rfl, q⟩
      have HZ2 : Hid (Blk w2 g 32 tkZ) := HZ1.out.below (Hid.out q) HZ1.out.lt
      have HB2 : Hid (Below w.heap.size w w2) := HB1.out.trans ((Hid.out q).mono HB1.out.size)
      clear q HZ1 HB1
      go_wp2_with fail
      refine (KHl _).mono ?_
      rintro e w3 ⟨rfl, q⟩
      have HZ3 : Hid (Blk w3 g 32 tkZ) := HZ2.out.below (Hid.out q) HZ2.out.lt
      have HB3 : Hid (Below w.heap.size w w3) := HB2.out.trans ((Hid.out q).mono HB2.out.size)
      clear q HZ2 HB2
      go_wp2_with fail
      refine (digits_any _).mono ?_
      rintro e w4 ⟨rfl, q⟩
      have HZ4 : Hid (Blk w4 g 32 tkZ) := HZ3.out.below (Hid.out q) HZ3.out.lt
      have HB4 : Hid (Below w.heap.size w w4) := HB3.out.trans ((Hid.out q).mono HB3.out.size)
      clear q HZ3 HB3
      go_wp2_with fail
      refine (KHd _).mono ?_
      rintro e w5 ⟨rfl, q⟩
      have HZ5 : Hid (Blk w5 g 32 tkZ) := HZ4.out.below (Hid.out q) HZ4.out.lt
      have HB5 : Hid (Below w.heap.size w w5) := HB4.out.trans ((Hid.out q).mono HB4.out.size)
      clear q HZ4 HB4
      go_wp2_with fail
      refine (KW.out _ HB5.out).mono ?_
      rintro e w6 ⟨rfl, q⟩
      have HZ6 : Hid (Blk w6 g 32 tkZ) := HZ5.out.below (Hid.out q) HZ5.out.lt
      have HB6 : Hid (Below w.heap.size w w6) := HB5.out.trans ((Hid.out q).mono HB5.out.size)
      clear q HZ5 HB5
      dsimp only [AnsE]
      go_wp2_with (refine st_all rfl 32 (.tmp 2) (.tmp 21) rfl g 32 tkZ (tk1 (X.1, X.2.1, 0)) rfl rfl HZ6.out rfl sTk (one_k _ _) ?_)
      intro w98 b98 g98
      have HBB : Hid (Below w.heap.size w w98) := HB6.out.grown g98 HB6.out.size (fun k e => by injection e with e; omega)
      have HZZ : Hid (Blk w98 g 32 (tk1 (X.1, X.2.1, 0))) := b98
      clear b98 g98 HZ6 HB6
      go_wp2
      refine bodyPost_ret (res_two rfl _ g 32 _ _ rfl HZZ.out Tryz.underlying32 rfl sTk) rfl ?_
      exact ⟨rfl, HBB.out⟩
    | false =>
      rw [hd] at KHd
      by_cases h34 : c = 34
      · subst h34
        have KW : ∀ W, Calls Tryz.prog 38 #[.string s] W fun e w' => e = AnsE X ∧ Hid (Below W.heap.size W w') := fun W => by
          have := quoted_any s hs q HS.out W
          rw [← ans_quo (tx := tx) (nu := nu), ← HS.out, HX.out] at this
          exact this
        clear HX HS hr hb hl hd HON HOT
        go_wp2_with fail
        refine (letters_any _).mono ?_
        rintro e w2 ⟨rfl, q⟩
        have HZ2 : Hid (Blk w2 g 32 tkZ) := HZ1.out.below (Hid.out q) HZ1.out.lt
        have HB2 : Hid (Below w.heap.size w w2) := HB1.out.trans ((Hid.out q).mono HB1.out.size)
        clear q HZ1 HB1
        go_wp2_with fail
        refine (KHl _).mono ?_
        rintro e w3 ⟨rfl, q⟩
        have HZ3 : Hid (Blk w3 g 32 tkZ) := HZ2.out.below (Hid.out q) HZ2.out.lt
        have HB3 : Hid (Below w.heap.size w w3) := HB2.out.trans ((Hid.out q).mono HB2.out.size)
        clear q HZ2 HB2
        go_wp2_with fail
        refine (digits_any _).mono ?_
        rintro e w4 ⟨rfl, q⟩
        have HZ4 : Hid (Blk w4 g 32 tkZ) := HZ3.out.below (Hid.out q) HZ3.out.lt
        have HB4 : Hid (Below w.heap.size w w4) := HB3.out.trans ((Hid.out q).mono HB3.out.size)
        clear q HZ3 HB3
        go_wp2_with fail
        refine (KHd _).mono ?_
        rintro e w5 ⟨rfl, q⟩
        have HZ5 : Hid (Blk w5 g 32 tkZ) := HZ4.out.below (Hid.out q) HZ4.out.lt
        have HB5 : Hid (Below w.heap.size w w5) := HB4.out.trans ((Hid.out q).mono HB4.out.size)
        clear q HZ4 HB4
        go_wp2_with fail
        refine (KW _).mono ?_
        rintro e w6 ⟨rfl, q⟩
        have HZ6 : Hid (Blk w6 g 32 tkZ) := HZ5.out.below (Hid.out q) HZ5.out.lt
        have HB6 : Hid (Below w.heap.size w w6) := HB5.out.trans ((Hid.out q).mono HB5.out.size)
        clear q HZ5 HB5
        dsimp only [AnsE]
        go_wp2_with (refine st_all rfl 32 (.tmp 2) (.tmp 28) rfl g 32 tkZ (tk1 (X.1, X.2.1, 0)) rfl rfl HZ6.out rfl sTk (one_k _ _) ?_)
        intro w98 b98 g98
        have HBB : Hid (Below w.heap.size w w98) := HB6.out.grown g98 HB6.out.size (fun k e => by injection e with e; omega)
        have HZZ : Hid (Blk w98 g 32 (tk1 (X.1, X.2.1, 0))) := b98
        clear b98 g98 HZ6 HB6
        go_wp2
        refine bodyPost_ret (res_two rfl _ g 32 _ _ rfl HZZ.out Tryz.underlying32 rfl sTk) rfl ?_
        exact ⟨rfl, HBB.out⟩
      have n34 : ((c : Int) == 34) = false := beq_eq_false_iff_ne.2 (by omega)
      by_cases h39 : c = 39
      · subst h39
        have hTP := HOT.out HM.out
        have KW : Hid (∀ W, Below w.heap.size w W → Calls Tryz.prog 39 #[.string s] W fun e w' => e = AnsE X ∧ Hid (Below W.heap.size W w')) := fun W hW => by
          have := literal_any tx nu w0 hTP s hs q HS.out W (HBW.out W hW)
          rw [HX.out] at this
          exact this
        clear HX HS hr hb hl hd HON HOT hTP n34
        go_wp2_with fail
        refine (letters_any _).mono ?_
        rintro e w2 ⟨rfl, q⟩
        have HZ2 : Hid (Blk w2 g 32 tkZ) := HZ1.out.below (Hid.out q) HZ1.out.lt
        have HB2 : Hid (Below w.heap.size w w2) := HB1.out.trans ((Hid.out q).mono HB1.out.size)
        clear q HZ1 HB1
        go_wp2_with fail
        refine (KHl _).mono ?_
        rintro e w3 ⟨rfl, q⟩
        have HZ3 : Hid (Blk w3 g 32 tkZ) := HZ2.out.below (Hid.out q) HZ2.out.lt
        have HB3 : Hid (Below w.heap.size w w3) := HB2.out.trans ((Hid.out q).mono HB2.out.size)
        clear q HZ2 HB2
        go_wp2_with fail
        refine (digits_any _).mono ?_
        rintro e w4 ⟨rfl, q⟩
        have HZ4 : Hid (Blk w4 g 32 tkZ) := HZ3.out.below (Hid.out q) HZ3.out.lt
        have HB4 : Hid (Below w.heap.size w w4) := HB3.out.trans ((Hid.out q).mono HB3.out.size)
        clear q HZ3 HB3
        go_wp2_with fail
        refine (KHd _).mono ?_
        rintro e w5 ⟨rfl, q⟩
        have HZ5 : Hid (Blk w5 g 32 tkZ) := HZ4.out.below (Hid.out q) HZ4.out.lt
        have HB5 : Hid (Below w.heap.size w w5) := HB4.out.trans ((Hid.out q).mono HB4.out.size)
        clear q HZ4 HB4
        go_wp2_with fail
        refine (KW.out _ HB5.out).mono ?_
        rintro e w6 ⟨rfl, q⟩
        have HZ6 : Hid (Blk w6 g 32 tkZ) := HZ5.out.below (Hid.out q) HZ5.out.lt
        have HB6 : Hid (Below w.heap.size w w6) := HB5.out.trans ((Hid.out q).mono HB5.out.size)
        clear q HZ5 HB5
        dsimp only [AnsE]
        go_wp2_with (refine st_all rfl 32 (.tmp 2) (.tmp 35) rfl g 32 tkZ (tk1 (X.1, X.2.1, 0)) rfl rfl HZ6.out rfl sTk (one_k _ _) ?_)
        intro w98 b98 g98
        have HBB : Hid (Below w.heap.size w w98) := HB6.out.grown g98 HB6.out.size (fun k e => by injection e with e; omega)
        have HZZ : Hid (Blk w98 g 32 (tk1 (X.1, X.2.1, 0))) := b98
        clear b98 g98 HZ6 HB6
        go_wp2
        refine bodyPost_ret (res_two rfl _ g 32 _ _ rfl HZZ.out Tryz.underlying32 rfl sTk) rfl ?_
        exact ⟨rfl, HBB.out⟩
      have n39 : ((c : Int) == 39) = false := beq_eq_false_iff_ne.2 (by omega)
      by_cases h63 : c = 63
      · subst h63
        have hx1 : (1 : Int) ≤ (s.size : Int) := by omega
        have HE1 : Hid (ofB [63] = s.extract 0 1) := by
          have h := bts_takeL s 1 (by omega)
          rw [HS.out] at h
          rw [← ofB_bts (s.extract 0 1), h]
          rfl
        have HX2 : Hid (X = (7, [63], 1)) := by rw [← HX.out, HS.out, st_par]; rfl
        clear HX HS hr hb hl hd HON HOT n34 n39
        go_wp2_with fail
        refine (letters_any _).mono ?_
        rintro e w2 ⟨rfl, q⟩
        have HZ2 : Hid (Blk w2 g 32 tkZ) := HZ1.out.below (Hid.out q) HZ1.out.lt
        have HB2 : Hid (Below w.heap.size w w2) := HB1.out.trans ((Hid.out q).mono HB1.out.size)
        clear q HZ1 HB1
        go_wp2_with fail
        refine (KHl _).mono ?_
        rintro e w3 ⟨rfl, q⟩
        have HZ3 : Hid (Blk w3 g 32 tkZ) := HZ2.out.below (Hid.out q) HZ2.out.lt
        have HB3 : Hid (Below w.heap.size w w3) := HB2.out.trans ((Hid.out q).mono HB2.out.size)
        clear q HZ2 HB2
        go_wp2_with fail
        refine (digits_any _).mono ?_
        rintro e w4 ⟨rfl, q⟩
        have HZ4 : Hid (Blk w4 g 32 tkZ) := HZ3.out.below (Hid.out q) HZ3.out.lt
        have HB4 : Hid (Below w.heap.size w w4) := HB3.out.trans ((Hid.out q).mono HB3.out.size)
        clear q HZ3 HB3
        go_wp2_with fail
        refine (KHd _).mono ?_
        rintro e w5 ⟨rfl, q⟩
        have HZ5 : Hid (Blk w5 g 32 tkZ) := HZ4.out.below (Hid.out q) HZ4.out.lt
        have HB5 : Hid (Below w.heap.size w w5) := HB4.out.trans ((Hid.out q).mono HB4.out.size)
        clear q HZ4 HB4
        go_wp2_with (refine st_all rfl 32 (.tmp 2) (.tmp 42) rfl g 32 tkZ (tk1 (7, [63], 0)) rfl (by unfold tk1; rw [HE1.out]; rfl) HZ5.out rfl sTk (one_k _ _) ?_)
        intro w98 b98 g98
        have HBB : Hid (Below w.heap.size w w98) := HB5.out.grown g98 HB5.out.size (fun k e => by injection e with e; omega)
        have HZZ : Hid (Blk w98 g 32 (tk1 (7, [63], 0))) := b98
        clear b98 g98 HZ5 HB5
        go_wp2
        refine bodyPost_ret (res_two rfl _ g 32 _ _ rfl HZZ.out Tryz.underlying32 rfl sTk) rfl ?_
        rw [HX2.out]
        exact ⟨rfl, HBB.out⟩
      have n63 : ((c : Int) == 63) = false := beq_eq_false_iff_ne.2 (by omega)
      have KW : ∀ W, Calls Tryz.prog 40 #[.string s] W fun e w' => e = AnsE X ∧ Hid (Below W.heap.size W w') := fun W => by
        have := psign_any s hs h0 W
        rw [HS.out, ← ans_sgn (tx := tx) (nu := nu) hb hr hl h34 hd h39 h63, ← HS.out, HX.out] at this
        exact this
      clear HX HS hr hb hl hd HON HOT
      go_wp2_with fail
      refine (letters_any _).mono ?_
      rintro e w2 ⟨rfl, q⟩
      have HZ2 : Hid (Blk w2 g 32 tkZ) := HZ1.out.below (Hid.out q) HZ1.out.lt
      have HB2 : Hid (Below w.heap.size w w2) := HB1.out.trans ((Hid.out q).mono HB1.out.size)
      clear q HZ1 HB1
      go_wp2_with fail
      refine (KHl _).mono ?_
      rintro e w3 ⟨rfl, q⟩
      have HZ3 : Hid (Blk w3 g 32 tkZ) := HZ2.out.below (Hid.out q) HZ2.out.lt
      have HB3 : Hid (Below w.heap.size w w3) := HB2.out.trans ((Hid.out q).mono HB2.out.size)
      clear q HZ2 HB2
      go_wp2_with fail
      refine (digits_any _).mono ?_
      rintro e w4 ⟨rfl, q⟩
      have HZ4 : Hid (Blk w4 g 32 tkZ) := HZ3.out.below (Hid.out q) HZ3.out.lt
      have HB4 : Hid (Below w.heap.size w w4) := HB3.out.trans ((Hid.out q).mono HB3.out.size)
      clear q HZ3 HB3
      go_wp2_with fail
      refine (KHd _).mono ?_
      rintro e w5 ⟨rfl, q⟩
      have HZ5 : Hid (Blk w5 g 32 tkZ) := HZ4.out.below (Hid.out q) HZ4.out.lt
      have HB5 : Hid (Below w.heap.size w w5) := HB4.out.trans ((Hid.out q).mono HB4.out.size)
      clear q HZ4 HB4
      go_wp2_with fail
      refine (KW _).mono ?_
      rintro e w6 ⟨rfl, q⟩
      have HZ6 : Hid (Blk w6 g 32 tkZ) := HZ5.out.below (Hid.out q) HZ5.out.lt
      have HB6 : Hid (Below w.heap.size w w6) := HB5.out.trans ((Hid.out q).mono HB5.out.size)
      clear q HZ5 HB5
      dsimp only [AnsE]
      go_wp2_with (refine st_all rfl 32 (.tmp 2) (.tmp 45) rfl g 32 tkZ (tk1 (X.1, X.2.1, 0)) rfl rfl HZ6.out rfl sTk (one_k _ _) ?_)
      intro w98 b98 g98
      have HBB : Hid (Below w.heap.size w w98) := HB6.out.grown g98 HB6.out.size (fun k e => by injection e with e; omega)
      have HZZ : Hid (Blk w98 g 32 (tk1 (X.1, X.2.1, 0))) := b98
      clear b98 g98 HZ6 HB6
      go_wp2
      refine bodyPost_ret (res_two rfl _ g 32 _ _ rfl HZZ.out Tryz.underlying32 rfl sTk) rfl ?_
      exact ⟨rfl, HBB.out⟩
end Go.Proofs.YtpfiejmhnkcjbaaGreatDoor
