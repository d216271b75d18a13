/-
   · 
-/
import Derived.Test.YtpfiejmhnkcjbaaGreatDoorHG15x
namespace Go.Proofs.YtpfiejmhnkcjbaaGreatDoor
set_option maxHeartbeats 4000000
set_option maxRecDepth 8000
open Go.RowKit Lx
set_option linter.unusedVariables false
set_option linter.unusedSimpArgs false
def TxP (tx : List Nat -> Bool) (w0 : World) : Prop := ∀ (x : ByteArray), x.size <= 4096 -> (bts x).head? = some 39 -> ∀ W, Below w0.heap.size w0 W -> Calls Tryz.prog 55 #[.string x] W fun e w' => ∃ (v : List Value) (E : Int), v.length = 6 /\ (∀ u ∈ v, u.oneCell' = true) /\ e = .returned (.tuple #[.agg v.toArray, .int .i64 E]) /\ (tx (bts x) = true ↔ E = 0) /\ Below W.heap.size W w'
theorem ans_txt {tx nu : List Nat -> Bool} (q : List Nat) : ans (Lx.step tx nu (39 :: q)) = match txE q with
 | none => (0, [], 0)
 | some n => if tx ((39 :: q).take (n + 1)) then (5, (39 :: q).take (n + 1), n + 1) else (0, [], 0) := by
 rw [st_txt]
 cases txE q with
 | none => rfl
 | some n =>
   simp only
   split <;> rfl
theorem literal_any (tx nu : List Nat -> Bool) (w0 : World) (ht : TxP tx w0) (s : ByteArray) (hs : s.size <= 4096) (q : List Nat) (hq : bts s = 39 :: q) (w : World) (hw : Below w0.heap.size w0 w) : Calls Tryz.prog 39 #[.string s] w fun e w' => e = AnsE (ans (Lx.step tx nu (bts s))) /\ Hid (Below w.heap.size w w') := by
 have HT : Hid (TxP tx w0) := ht
 obtain ⟨X, HX⟩ : ∃ X : Nat × List Nat × Nat, Hid (ans (Lx.step tx nu (bts s)) = X) := ⟨_, rfl⟩
 rw [HX.out]
 rw [hq, ans_txt] at HX
 have HQ : Hid (bts s = 39 :: q) := hq
 have hs1 : 1 <= s.size := by rw [<- bts_len, hq, List.length_cons]; omega
 clear ht hq
 go_enter Tryz.func39, Tryz.ntmps39
 go_wp2_with (refine al_zero rfl 32 rfl tkZ zTk ?_)
 intro g w1 hg bz gr
 have HZ1 : Hid (Blk w1 g 32 tkZ) := bz
 have HB1 : Hid (Below w.heap.size w w1) := (Below.refl _ _).grown gr (Nat.le_refl _) (fun k e => by cases e)
 clear bz gr
 go_wp2
 go_loopw [4] (fun iv wr => ∃ k : Nat, 1 <= k /\ k <= s.size /\ iv = .int .i64 (k : Int) /\ Hid (txE q = (txE ((bts s).drop k)).map (· + (k - 1)) /\ Below w1.heap.size w1 wr)) (fun iv _ => s.size - (intOf iv).toNat)
 case atStart => exact ⟨1, Nat.le_refl _, hs1, rfl, by rw [HQ.out]; simp, Below.refl _ _⟩
 case round =>
  obtain ⟨k, hk1, hk, rfl, HR⟩ := hrel
  have HE : Hid (txE q = (txE ((bts s).drop k)).map (· + (k - 1))) := HR.out.1
  have HZ2 : Hid (Blk wr g 32 tkZ) := HZ1.out.below HR.out.2 HZ1.out.lt
  have HW : Hid (Below w1.heap.size w1 wr) := HR.out.2
  have HB2 : Hid (Below w.heap.size w wr) := HB1.out.trans (HR.out.2.mono HB1.out.size)
  have hl : bts (s.extract k s.size) = (bts s).drop k := bts_restL s k hk
  have KI := ixb_any (s.extract k s.size) 39 (by decide) wr
  rw [hl] at KI
  have hls : (s.extract k s.size).size = ((bts s).drop k).length := by rw [<- hl, bts_len]
  rw [hls] at KI
  have hdl : ((bts s).drop k).length = s.size - k := by rw [List.length_drop, bts_len]
  obtain ⟨T, hT⟩ : ∃ T, (((bts s).drop k).takeWhile (· != 39)).length = T := ⟨_, rfl⟩
  rw [hT] at KI
  have x1 : (k : Int) <= (s.size : Int) := by omega
  clear HR hl hls
  by_cases hlt : T < ((bts s).drop k).length
  . rw [if_pos hlt] at KI
    obtain ⟨E1, E2⟩ := txE_some _ hT hlt
    have HE1 : Hid (_ /\ _) := ⟨E1, E2⟩
    have hks : k + T + 1 <= s.size := by omega
    have KH := fun W => hasp_any (s.extract (k + T + 1) s.size) ⟨#[39]⟩ W
    rw [bts_restL s _ hks] at KH
    have hd2 : ((bts s).drop k).drop (T + 1) = (bts s).drop (k + T + 1) := by rw [List.drop_drop]; congr 1
    have hd3 : ((bts s).drop k).drop (T + 2) = (bts s).drop (k + T + 2) := by rw [List.drop_drop]; congr 1
    rw [hd2, hd3] at HE1
    have x3 : (k : Int) + ((T : Int) + 1) = ((k + T + 1 : Nat) : Int) := by omega
    have x4 : (((k + T + 1 : Nat) : Int)) <= (s.size : Int) := by omega
    have x5 : ¬ (T : Int) < 0 := by omega
    have hdl2 : ((bts s).drop (k + T + 1)).length = s.size - (k + T + 1) := by rw [List.length_drop, bts_len]
    clear hlt hT E1 E2 hd2 hd3 hdl
    by_cases hh : ((bts s).drop (k + T + 1)).head? = some 39
    . have hpre : (bts (⟨#[39]⟩ : ByteArray)).isPrefixOf ((bts s).drop (k + T + 1)) = true := by
       show [39].isPrefixOf _ = true
       cases hx : (bts s).drop (k + T + 1) with
       | nil => rw [hx] at hh; cases hh
       | cons x l => rw [hx] at hh; simp at hh; subst hh; simp [List.isPrefixOf]
      have hne : k + T + 2 <= s.size := by
       cases hx : (bts s).drop (k + T + 1) with
       | nil => rw [hx] at hh; cases hh
       | cons x l => rw [hx] at hdl2; simp at hdl2; omega
      rw [hpre] at KH
      have HE2 : Hid (txE q = (txE ((bts s).drop (k + T + 2))).map (· + (k + T + 2 - 1))) := by
       rw [HE.out, HE1.out.2 hh, Option.map_map]
       congr 1
       funext z
       simp only [Function.comp]
       omega
      obtain ⟨M, hM⟩ : ∃ M, k + T + 1 = M := ⟨_, rfl⟩
      rw [hM] at KH x3 x4
      clear hdl2 hpre hh HE1
      go_wp2_with fail
      refine KI.mono ?_
      rintro e w3 ⟨rfl, qq⟩
      subst qq
      go_wp2_with fail
      refine (KH _).mono ?_
      rintro e w4 ⟨rfl, qq⟩
      subst qq
      go_wp2
      go_roundw
      case rel => exact ⟨k + T + 2, by omega, hne, by go_num, HE2.out, HW.out⟩
      case measure => simp [intOf]; omega
    . have hpre : (bts (⟨#[39]⟩ : ByteArray)).isPrefixOf ((bts s).drop (k + T + 1)) = false := by
       show [39].isPrefixOf _ = false
       cases hx : (bts s).drop (k + T + 1) with
       | nil => rfl
       | cons x l =>
         rw [hx] at hh
         simp at hh
         simp [List.isPrefixOf]
         omega
      rw [hpre] at KH
      have hq2 : txE q = some (k + T) := by
       rw [HE.out, HE1.out.1 hh]
       simp
       omega
      rw [hq2] at HX
      simp only at HX
      rw [<- HQ.out] at HX
      have hbx : bts (s.extract 0 (k + T + 1)) = (bts s).take (k + T + 1) := bts_takeL s _ hks
      have hsx : (s.extract 0 (k + T + 1)).size <= 4096 := by rw [size_ex s 0 _ hks]; omega
      have HTT : Hid (ofB ((bts s).take (k + T + 1)) = s.extract 0 (k + T + 1)) := by rw [<- hbx, ofB_bts]; rfl
      have hhd : (bts (s.extract 0 (k + T + 1))).head? = some 39 := by rw [hbx, HQ.out]; rfl
      obtain ⟨M, hM⟩ : ∃ M, k + T + 1 = M := ⟨_, rfl⟩
      rw [hM] at KH x3 x4 HX hbx hsx HTT hhd
      have HHD : Hid ((bts (s.extract 0 M)).head? = some 39 /\ bts (s.extract 0 M) = (bts s).take M) := ⟨hhd, hbx⟩
      clear hdl2 hpre hh HE1 hq2 HE hhd hbx
      go_wp2_with fail
      refine KI.mono ?_
      rintro e w3 ⟨rfl, qq⟩
      subst qq
      go_wp2_with fail
      refine (KH _).mono ?_
      rintro e w4 ⟨rfl, qq⟩
      subst qq
      go_wp2_with fail
      refine (HT.out (s.extract 0 M) hsx HHD.out.1 _ (hw.trans (HB2.out.mono hw.size))).mono ?_
      rintro e w3 ⟨v, E, hv6, hv1, rfl, hE, qq⟩
      have HZ3 : Hid (Blk w3 g 32 tkZ) := HZ2.out.below qq HZ2.out.lt
      have HB3 : Hid (Below w.heap.size w w3) := HB2.out.trans (qq.mono HB2.out.size)
      have HE : Hid (tx ((bts s).take M) = true ↔ E = 0) := by rw [HHD.out.2] at hE; exact hE
      have HV6 : Hid (v.length = 6) := hv6
      clear qq HZ2 HB2 hE hv6 HW
      go_wp2_with (refine al_zero rfl 41 rfl zer z25 ?_)
      intro g5 w88 hg5 bz5 gr5
      go_wp2_with (refine st_all rfl 41 (.tmp 6) (.tmp 33) rfl g5 41 zer v rfl rfl bz5 HV6.out (by rw [s25, HV6.out]) hv1 ?_)
      intro w89 b89 g89
      have HB88 : Hid (Below w3.heap.size w3 w89) := below_new gr5 hg5 g89
      have HZ89 : Hid (Blk w89 g 32 tkZ) := HZ3.out.below HB88.out HZ3.out.lt
      have HB89 : Hid (Below w.heap.size w w89) := HB3.out.trans (HB88.out.mono HB3.out.size)
      clear bz5 gr5 b89 g89 HB88 HZ3 HB3
      by_cases hE0 : E = 0
      . subst hE0
        have hnu : tx ((bts s).take M) = true := HE.out.2 rfl
        rw [hnu, if_pos rfl] at HX
        go_wp2_with (refine st_all rfl 32 (.tmp 2) (.tmp 43) rfl g 32 tkZ (tk1 (5, (bts s).take M, 0)) rfl (by unfold tk1; rw [HTT.out]; rfl) HZ89.out rfl sTk (one_k _ _) ?_)
        intro w98 b98 g98
        have HBB : Hid (Below w.heap.size w w98) := HB89.out.grown g98 HB89.out.size (fun k e => by injection e with e; omega)
        have HZZ : Hid (Blk w98 g 32 (tk1 (5, (bts s).take M, 0))) := b98
        clear b98 g98 HZ89 HB89
        go_wp2
        refine bodyPost_ret (res_two rfl _ g 32 _ _ rfl HZZ.out Tryz.underlying32 rfl sTk) rfl ?_
        rw [<- HX.out]
        exact ⟨rfl, HBB.out⟩
      . have hnu : tx ((bts s).take M) = false := by
         cases h : tx ((bts s).take M) with
         | false => rfl
         | true => exact absurd (HE.out.1 h) hE0
        rw [hnu, if_neg (by decide)] at HX
        have xE : (E == 0) = false := beq_eq_false_iff_ne.2 hE0
        go_wp2_with fail
        refine (none_any _).mono ?_
        rintro e w90 ⟨rfl, q⟩
        have HZ90 : Hid (Blk w90 g 32 tkZ) := HZ89.out.below (Hid.out q) HZ89.out.lt
        have HB90 : Hid (Below w.heap.size w w90) := HB89.out.trans ((Hid.out q).mono HB89.out.size)
        clear q HZ89 HB89
        go_wp2_with (refine st_all rfl 32 (.tmp 2) (.tmp 38) rfl g 32 tkZ (tk1 (0, [], 0)) rfl rfl HZ90.out rfl sTk (one_k _ _) ?_)
        intro w98 b98 g98
        have HBB : Hid (Below w.heap.size w w98) := HB90.out.grown g98 HB90.out.size (fun k e => by injection e with e; omega)
        have HZZ : Hid (Blk w98 g 32 (tk1 (0, [], 0))) := b98
        clear b98 g98 HZ90 HB90
        go_wp2
        refine bodyPost_ret (res_two rfl _ g 32 _ _ rfl HZZ.out Tryz.underlying32 rfl sTk) rfl ?_
        rw [<- HX.out]
        exact ⟨rfl, HBB.out⟩
  . rw [if_neg hlt] at KI
    have hq2 : txE q = none := by rw [HE.out, txE_none _ (by rw [hT]; exact hlt)]; rfl
    rw [hq2] at HX
    simp only at HX
    clear hlt hT hdl hq2 HE
    go_wp2_with fail
    refine KI.mono ?_
    rintro e w3 ⟨rfl, qq⟩
    subst qq
    go_wp2_with fail
    refine (none_any _).mono ?_
    rintro e w3 ⟨rfl, q⟩
    have HZ3 : Hid (Blk w3 g 32 tkZ) := HZ2.out.below (Hid.out q) HZ2.out.lt
    have HB3 : Hid (Below w.heap.size w w3) := HB2.out.trans ((Hid.out q).mono HB2.out.size)
    clear q HZ2 HB2
    go_wp2_with (refine st_all rfl 32 (.tmp 2) (.tmp 15) rfl g 32 tkZ (tk1 (0, [], 0)) rfl rfl HZ3.out rfl sTk (one_k _ _) ?_)
    intro w98 b98 g98
    have HBB : Hid (Below w.heap.size w w98) := HB3.out.grown g98 HB3.out.size (fun k e => by injection e with e; omega)
    have HZZ : Hid (Blk w98 g 32 (tk1 (0, [], 0))) := b98
    clear b98 g98 HZ3 HB3
    go_wp2
    refine bodyPost_ret (res_two rfl _ g 32 _ _ rfl HZZ.out Tryz.underlying32 rfl sTk) rfl ?_
    rw [<- HX.out]
    exact ⟨rfl, HBB.out⟩
end Go.Proofs.YtpfiejmhnkcjbaaGreatDoor
namespace Go.Proofs.YtpfiejmhnkcjbaaGreatDoor
set_option maxHeartbeats 4000000
set_option maxRecDepth 8000
open Go.RowKit Lx
set_option linter.unusedVariables false
set_option linter.unusedSimpArgs false
section
variable {tx nu : List Nat -> Bool} {c : Nat} {q : List Nat}
theorem ans_word (h0 : isBl c = false) (h : isLt c = true) : ans (Lx.step tx nu (c :: q)) = if isW (sml ((c :: q).takeWhile isNm)) then (2, sml ((c :: q).takeWhile isNm), ((c :: q).takeWhile isNm).length) else (1, (c :: q).takeWhile isNm, ((c :: q).takeWhile isNm).length) := by
 rw [st_word h0 h]
 split <;> rfl
theorem ans_quo : ans (Lx.step tx nu (34 :: q)) = if q.length = (q.takeWhile (· != 34)).length ∨ (q.takeWhile (· != 34)).length < 1 ∨ 40 < (q.takeWhile (· != 34)).length then (0, [], 0) else (1, q.takeWhile (· != 34), (q.takeWhile (· != 34)).length + 2) := by
 rw [st_quo]
 split <;> rfl
theorem ans_sgn (h0 : isBl c = false) (h1 : ¬ (c = 45 /\ q.head? = some 45)) (h2 : isLt c = false) (h3 : ¬ c = 34) (h4 : isDg c = false) (h5 : ¬ c = 39) (h6 : ¬ c = 63) : ans (Lx.step tx nu (c :: q)) = sgA (c :: q) := by
 rw [st_sgn h0 h1 h2 h3 h4 h5 h6]
 unfold sgA
 split <;> rfl
end
theorem next_any (tx nu : List Nat -> Bool) (w0 : World) (s : ByteArray) (hs : s.size <= 4096) (h0 : s.size ≠ 0) (hk : NoSk (bts s)) (hT : 39 ∈ bts s -> TxP tx w0) (hN : (∃ d ∈ bts s, isDg d = true) -> NuP nu w0 /\ NuDot nu) (w : World) (hw : Below w0.heap.size w0 w) :
 Calls Tryz.prog 18 #[.string s] w fun e w' => e = AnsE (ans (Lx.step tx nu (bts s))) /\ Hid (Below w.heap.size w w') := by
 have hlt : 0 < s.size := by omega
 have hcq := bts_dropL s 0 hlt
 rw [List.drop_zero] at hcq
 have hoc := oct_getD s 0
 have hix0 : ∀ W, (Instr.index 9 (.string s) (.int .i64 0)).run Tryz.prog W = .ok (.int .u8 (((bts s).getD 0 0 : Nat) : Int)) W := fun W => idxL s 0 hlt W
 obtain ⟨c, hc⟩ : ∃ c, (bts s).getD 0 0 = c := ⟨_, rfl⟩
 obtain ⟨q, hq⟩ : ∃ q, (bts s).drop 1 = q := ⟨_, rfl⟩
 rw [Nat.zero_add, hc, hq] at hcq
 rw [hc] at hoc hix0
 obtain ⟨hb, hr⟩ := hk c q hcq
 have HS : Hid (bts s = c :: q) := hcq
 obtain ⟨X, HX⟩ : ∃ X : Nat × List Nat × Nat, Hid (ans (Lx.step tx nu (bts s)) = X) := ⟨_, rfl⟩
 rw [HX.out]
 have KHl : ∀ W, Calls Tryz.prog 34 #[.agg (cC 0 cLt).toArray, .int .u8 (c : Int)] W fun e w' => e = .returned (.bool (isLt c)) /\ Hid (Below W.heap.size W w') := fun W => by
  have := has_any 0 cLt c (by decide) (by decide) hoc W
  rw [inC_lt _ hoc] at this
  exact this
 have KHd : ∀ W, Calls Tryz.prog 34 #[.agg (cC cDg 0).toArray, .int .u8 (c : Int)] W fun e w' => e = .returned (.bool (isDg c)) /\ Hid (Below W.heap.size W w') := fun W => by
  have := has_any cDg 0 c (by decide) (by decide) hoc W
  rw [inC_dg _ hoc] at this
  exact this
 have hBW : ∀ W, Below w.heap.size w W -> Below w0.heap.size w0 W := fun W h => hw.trans (h.mono hw.size)
 have HBW : Hid (∀ W, Below w.heap.size w W -> Below w0.heap.size w0 W) := hBW
 have HOT : Hid (39 ∈ bts s -> TxP tx w0) := hT
 have HON : Hid ((∃ d ∈ bts s, isDg d = true) -> NuP nu w0 /\ NuDot nu) := hN
 have hmem : c ∈ bts s := by rw [hcq]; exact List.mem_cons_self
 have HM : Hid (c ∈ bts s) := hmem
 clear hcq hc hq hk hBW hT hN hmem
 go_enter Tryz.func18, Tryz.ntmps18
 go_wp2_with (refine al_zero rfl 32 rfl tkZ zTk ?_)
 intro g w1 hg bz gr
 have HZ1 : Hid (Blk w1 g 32 tkZ) := bz
 have HB1 : Hid (Below w.heap.size w w1) := (Below.refl _ _).grown gr (Nat.le_refl _) (fun k e => by cases e)
 clear bz gr
 have hix := hix0 w1
 clear hix0
 cases hl : isLt c with
 | true =>
   rw [hl] at KHl
   have KW : ∀ W, Calls Tryz.prog 35 #[.string s] W fun e w' => e = AnsE X /\ Hid (Below W.heap.size W w') := fun W => by
    have := word_any s hs W
    rw [HS.out, <- ans_word (tx := tx) (nu := nu) hb hl, <- HS.out, HX.out] at this
    exact this
   clear KHd HX HS hr hb hl
   go_wp2_with fail
   refine (letters_any _).mono ?_
   rintro e w2 ⟨rfl, q⟩
   have HZ2 : Hid (Blk w2 g 32 tkZ) := HZ1.out.below (Hid.out q) HZ1.out.lt
   have HB2 : Hid (Below w.heap.size w w2) := HB1.out.trans ((Hid.out q).mono HB1.out.size)
   clear q HZ1 HB1
   go_wp2_with fail
   refine (KHl _).mono ?_
   rintro e w3 ⟨rfl, q⟩
   have HZ3 : Hid (Blk w3 g 32 tkZ) := HZ2.out.below (Hid.out q) HZ2.out.lt
   have HB3 : Hid (Below w.heap.size w w3) := HB2.out.trans ((Hid.out q).mono HB2.out.size)
   clear q HZ2 HB2
   go_wp2_with fail
   refine (KW _).mono ?_
   rintro e w4 ⟨rfl, q⟩
   have HZ4 : Hid (Blk w4 g 32 tkZ) := HZ3.out.below (Hid.out q) HZ3.out.lt
   have HB4 : Hid (Below w.heap.size w w4) := HB3.out.trans ((Hid.out q).mono HB3.out.size)
   clear q HZ3 HB3
   dsimp only [AnsE]
   go_wp2_with (refine st_all rfl 32 (.tmp 2) (.tmp 13) rfl g 32 tkZ (tk1 (X.1, X.2.1, 0)) rfl rfl HZ4.out rfl sTk (one_k _ _) ?_)
   intro w98 b98 g98
   have HBB : Hid (Below w.heap.size w w98) := HB4.out.grown g98 HB4.out.size (fun k e => by injection e with e; omega)
   have HZZ : Hid (Blk w98 g 32 (tk1 (X.1, X.2.1, 0))) := b98
   clear b98 g98 HZ4 HB4
   go_wp2
   refine bodyPost_ret (res_two rfl _ g 32 _ _ rfl HZZ.out Tryz.underlying32 rfl sTk) rfl ?_
   exact ⟨rfl, HBB.out⟩
 | false =>
   rw [hl] at KHl
   cases hd : isDg c with
   | true =>
     rw [hd] at KHd
     obtain ⟨hNP, hND⟩ := HON.out ⟨c, HM.out, hd⟩
     have KW : ∀ W, Below w.heap.size w W -> Calls Tryz.prog 37 #[.string s] W fun e w' => e = AnsE X /\ Hid (Below W.heap.size W w') := fun W hW => by
      have := pnumber_any tx nu hND w0 hNP s hs c q HS.out hd W (HBW.out W hW)
      rw [HX.out] at this
      exact this
     have KW : Hid (∀ W, Below w.heap.size w W -> Calls Tryz.prog 37 #[.string s] W fun e w' => e = AnsE X /\ Hid (Below W.heap.size W w')) := KW
     clear HX HS hr hb hl hd hNP hND HON HOT
     go_wp2_with fail
     refine (letters_any _).mono ?_
     rintro e w2 ⟨rfl, q⟩
     have HZ2 : Hid (Blk w2 g 32 tkZ) := HZ1.out.below (Hid.out q) HZ1.out.lt
     have HB2 : Hid (Below w.heap.size w w2) := HB1.out.trans ((Hid.out q).mono HB1.out.size)
     clear q HZ1 HB1
     go_wp2_with fail
     refine (KHl _).mono ?_
     rintro e w3 ⟨rfl, q⟩
     have HZ3 : Hid (Blk w3 g 32 tkZ) := HZ2.out.below (Hid.out q) HZ2.out.lt
     have HB3 : Hid (Below w.heap.size w w3) := HB2.out.trans ((Hid.out q).mono HB2.out.size)
     clear q HZ2 HB2
     go_wp2_with fail
     refine (digits_any _).mono ?_
     rintro e w4 ⟨rfl, q⟩
     have HZ4 : Hid (Blk w4 g 32 tkZ) := HZ3.out.below (Hid.out q) HZ3.out.lt
     have HB4 : Hid (Below w.heap.size w w4) := HB3.out.trans ((Hid.out q).mono HB3.out.size)
     clear q HZ3 HB3
     go_wp2_with fail
     refine (KHd _).mono ?_
     rintro e w5 ⟨rfl, q⟩
     have HZ5 : Hid (Blk w5 g 32 tkZ) := HZ4.out.below (Hid.out q) HZ4.out.lt
     have HB5 : Hid (Below w.heap.size w w5) := HB4.out.trans ((Hid.out q).mono HB4.out.size)
     clear q HZ4 HB4
     go_wp2_with fail
     refine (KW.out _ HB5.out).mono ?_
     rintro e w6 ⟨rfl, q⟩
     have HZ6 : Hid (Blk w6 g 32 tkZ) := HZ5.out.below (Hid.out q) HZ5.out.lt
     have HB6 : Hid (Below w.heap.size w w6) := HB5.out.trans ((Hid.out q).mono HB5.out.size)
     clear q HZ5 HB5
     dsimp only [AnsE]
     go_wp2_with (refine st_all rfl 32 (.tmp 2) (.tmp 21) rfl g 32 tkZ (tk1 (X.1, X.2.1, 0)) rfl rfl HZ6.out rfl sTk (one_k _ _) ?_)
     intro w98 b98 g98
     have HBB : Hid (Below w.heap.size w w98) := HB6.out.grown g98 HB6.out.size (fun k e => by injection e with e; omega)
     have HZZ : Hid (Blk w98 g 32 (tk1 (X.1, X.2.1, 0))) := b98
     clear b98 g98 HZ6 HB6
     go_wp2
     refine bodyPost_ret (res_two rfl _ g 32 _ _ rfl HZZ.out Tryz.underlying32 rfl sTk) rfl ?_
     exact ⟨rfl, HBB.out⟩
   | false =>
     rw [hd] at KHd
     by_cases h34 : c = 34
     . subst h34
       have KW : ∀ W, Calls Tryz.prog 38 #[.string s] W fun e w' => e = AnsE X /\ Hid (Below W.heap.size W w') := fun W => by
        have := quoted_any s hs q HS.out W
        rw [<- ans_quo (tx := tx) (nu := nu), <- HS.out, HX.out] at this
        exact this
       clear HX HS hr hb hl hd HON HOT
       go_wp2_with fail
       refine (letters_any _).mono ?_
       rintro e w2 ⟨rfl, q⟩
       have HZ2 : Hid (Blk w2 g 32 tkZ) := HZ1.out.below (Hid.out q) HZ1.out.lt
       have HB2 : Hid (Below w.heap.size w w2) := HB1.out.trans ((Hid.out q).mono HB1.out.size)
       clear q HZ1 HB1
       go_wp2_with fail
       refine (KHl _).mono ?_
       rintro e w3 ⟨rfl, q⟩
       have HZ3 : Hid (Blk w3 g 32 tkZ) := HZ2.out.below (Hid.out q) HZ2.out.lt
       have HB3 : Hid (Below w.heap.size w w3) := HB2.out.trans ((Hid.out q).mono HB2.out.size)
       clear q HZ2 HB2
       go_wp2_with fail
       refine (digits_any _).mono ?_
       rintro e w4 ⟨rfl, q⟩
       have HZ4 : Hid (Blk w4 g 32 tkZ) := HZ3.out.below (Hid.out q) HZ3.out.lt
       have HB4 : Hid (Below w.heap.size w w4) := HB3.out.trans ((Hid.out q).mono HB3.out.size)
       clear q HZ3 HB3
       go_wp2_with fail
       refine (KHd _).mono ?_
       rintro e w5 ⟨rfl, q⟩
       have HZ5 : Hid (Blk w5 g 32 tkZ) := HZ4.out.below (Hid.out q) HZ4.out.lt
       have HB5 : Hid (Below w.heap.size w w5) := HB4.out.trans ((Hid.out q).mono HB4.out.size)
       clear q HZ4 HB4
       go_wp2_with fail
       refine (KW _).mono ?_
       rintro e w6 ⟨rfl, q⟩
       have HZ6 : Hid (Blk w6 g 32 tkZ) := HZ5.out.below (Hid.out q) HZ5.out.lt
       have HB6 : Hid (Below w.heap.size w w6) := HB5.out.trans ((Hid.out q).mono HB5.out.size)
       clear q HZ5 HB5
       dsimp only [AnsE]
       go_wp2_with (refine st_all rfl 32 (.tmp 2) (.tmp 28) rfl g 32 tkZ (tk1 (X.1, X.2.1, 0)) rfl rfl HZ6.out rfl sTk (one_k _ _) ?_)
       intro w98 b98 g98
       have HBB : Hid (Below w.heap.size w w98) := HB6.out.grown g98 HB6.out.size (fun k e => by injection e with e; omega)
       have HZZ : Hid (Blk w98 g 32 (tk1 (X.1, X.2.1, 0))) := b98
       clear b98 g98 HZ6 HB6
       go_wp2
       refine bodyPost_ret (res_two rfl _ g 32 _ _ rfl HZZ.out Tryz.underlying32 rfl sTk) rfl ?_
       exact ⟨rfl, HBB.out⟩
     have n34 : ((c : Int) == 34) = false := beq_eq_false_iff_ne.2 (by omega)
     by_cases h39 : c = 39
     . subst h39
       have hTP := HOT.out HM.out
       have KW : Hid (∀ W, Below w.heap.size w W -> Calls Tryz.prog 39 #[.string s] W fun e w' => e = AnsE X /\ Hid (Below W.heap.size W w')) := fun W hW => by
        have := literal_any tx nu w0 hTP s hs q HS.out W (HBW.out W hW)
        rw [HX.out] at this
        exact this
       clear HX HS hr hb hl hd HON HOT hTP n34
       go_wp2_with fail
       refine (letters_any _).mono ?_
       rintro e w2 ⟨rfl, q⟩
       have HZ2 : Hid (Blk w2 g 32 tkZ) := HZ1.out.below (Hid.out q) HZ1.out.lt
       have HB2 : Hid (Below w.heap.size w w2) := HB1.out.trans ((Hid.out q).mono HB1.out.size)
       clear q HZ1 HB1
       go_wp2_with fail
       refine (KHl _).mono ?_
       rintro e w3 ⟨rfl, q⟩
       have HZ3 : Hid (Blk w3 g 32 tkZ) := HZ2.out.below (Hid.out q) HZ2.out.lt
       have HB3 : Hid (Below w.heap.size w w3) := HB2.out.trans ((Hid.out q).mono HB2.out.size)
       clear q HZ2 HB2
       go_wp2_with fail
       refine (digits_any _).mono ?_
       rintro e w4 ⟨rfl, q⟩
       have HZ4 : Hid (Blk w4 g 32 tkZ) := HZ3.out.below (Hid.out q) HZ3.out.lt
       have HB4 : Hid (Below w.heap.size w w4) := HB3.out.trans ((Hid.out q).mono HB3.out.size)
       clear q HZ3 HB3
       go_wp2_with fail
       refine (KHd _).mono ?_
       rintro e w5 ⟨rfl, q⟩
       have HZ5 : Hid (Blk w5 g 32 tkZ) := HZ4.out.below (Hid.out q) HZ4.out.lt
       have HB5 : Hid (Below w.heap.size w w5) := HB4.out.trans ((Hid.out q).mono HB4.out.size)
       clear q HZ4 HB4
       go_wp2_with fail
       refine (KW.out _ HB5.out).mono ?_
       rintro e w6 ⟨rfl, q⟩
       have HZ6 : Hid (Blk w6 g 32 tkZ) := HZ5.out.below (Hid.out q) HZ5.out.lt
       have HB6 : Hid (Below w.heap.size w w6) := HB5.out.trans ((Hid.out q).mono HB5.out.size)
       clear q HZ5 HB5
       dsimp only [AnsE]
       go_wp2_with (refine st_all rfl 32 (.tmp 2) (.tmp 35) rfl g 32 tkZ (tk1 (X.1, X.2.1, 0)) rfl rfl HZ6.out rfl sTk (one_k _ _) ?_)
       intro w98 b98 g98
       have HBB : Hid (Below w.heap.size w w98) := HB6.out.grown g98 HB6.out.size (fun k e => by injection e with e; omega)
       have HZZ : Hid (Blk w98 g 32 (tk1 (X.1, X.2.1, 0))) := b98
       clear b98 g98 HZ6 HB6
       go_wp2
       refine bodyPost_ret (res_two rfl _ g 32 _ _ rfl HZZ.out Tryz.underlying32 rfl sTk) rfl ?_
       exact ⟨rfl, HBB.out⟩
     have n39 : ((c : Int) == 39) = false := beq_eq_false_iff_ne.2 (by omega)
     by_cases h63 : c = 63
     . subst h63
       have hx1 : (1 : Int) <= (s.size : Int) := by omega
       have HE1 : Hid (ofB [63] = s.extract 0 1) := by
        have h := bts_takeL s 1 (by omega)
        rw [HS.out] at h
        rw [<- ofB_bts (s.extract 0 1), h]
        rfl
       have HX2 : Hid (X = (7, [63], 1)) := by rw [<- HX.out, HS.out, st_par]; rfl
       clear HX HS hr hb hl hd HON HOT n34 n39
       go_wp2_with fail
       refine (letters_any _).mono ?_
       rintro e w2 ⟨rfl, q⟩
       have HZ2 : Hid (Blk w2 g 32 tkZ) := HZ1.out.below (Hid.out q) HZ1.out.lt
       have HB2 : Hid (Below w.heap.size w w2) := HB1.out.trans ((Hid.out q).mono HB1.out.size)
       clear q HZ1 HB1
       go_wp2_with fail
       refine (KHl _).mono ?_
       rintro e w3 ⟨rfl, q⟩
       have HZ3 : Hid (Blk w3 g 32 tkZ) := HZ2.out.below (Hid.out q) HZ2.out.lt
       have HB3 : Hid (Below w.heap.size w w3) := HB2.out.trans ((Hid.out q).mono HB2.out.size)
       clear q HZ2 HB2
       go_wp2_with fail
       refine (digits_any _).mono ?_
       rintro e w4 ⟨rfl, q⟩
       have HZ4 : Hid (Blk w4 g 32 tkZ) := HZ3.out.below (Hid.out q) HZ3.out.lt
       have HB4 : Hid (Below w.heap.size w w4) := HB3.out.trans ((Hid.out q).mono HB3.out.size)
       clear q HZ3 HB3
       go_wp2_with fail
       refine (KHd _).mono ?_
       rintro e w5 ⟨rfl, q⟩
       have HZ5 : Hid (Blk w5 g 32 tkZ) := HZ4.out.below (Hid.out q) HZ4.out.lt
       have HB5 : Hid (Below w.heap.size w w5) := HB4.out.trans ((Hid.out q).mono HB4.out.size)
       clear q HZ4 HB4
       go_wp2_with (refine st_all rfl 32 (.tmp 2) (.tmp 42) rfl g 32 tkZ (tk1 (7, [63], 0)) rfl (by unfold tk1; rw [HE1.out]; rfl) HZ5.out rfl sTk (one_k _ _) ?_)
       intro w98 b98 g98
       have HBB : Hid (Below w.heap.size w w98) := HB5.out.grown g98 HB5.out.size (fun k e => by injection e with e; omega)
       have HZZ : Hid (Blk w98 g 32 (tk1 (7, [63], 0))) := b98
       clear b98 g98 HZ5 HB5
       go_wp2
       refine bodyPost_ret (res_two rfl _ g 32 _ _ rfl HZZ.out Tryz.underlying32 rfl sTk) rfl ?_
       rw [HX2.out]
       exact ⟨rfl, HBB.out⟩
     have n63 : ((c : Int) == 63) = false := beq_eq_false_iff_ne.2 (by omega)
     have KW : ∀ W, Calls Tryz.prog 40 #[.string s] W fun e w' => e = AnsE X /\ Hid (Below W.heap.size W w') := fun W => by
      have := psign_any s hs h0 W
      rw [HS.out, <- ans_sgn (tx := tx) (nu := nu) hb hr hl h34 hd h39 h63, <- HS.out, HX.out] at this
      exact this
     clear HX HS hr hb hl hd HON HOT
     go_wp2_with fail
     refine (letters_any _).mono ?_
     rintro e w2 ⟨rfl, q⟩
     have HZ2 : Hid (Blk w2 g 32 tkZ) := HZ1.out.below (Hid.out q) HZ1.out.lt
     have HB2 : Hid (Below w.heap.size w w2) := HB1.out.trans ((Hid.out q).mono HB1.out.size)
     clear q HZ1 HB1
     go_wp2_with fail
     refine (KHl _).mono ?_
     rintro e w3 ⟨rfl, q⟩
     have HZ3 : Hid (Blk w3 g 32 tkZ) := HZ2.out.below (Hid.out q) HZ2.out.lt
     have HB3 : Hid (Below w.heap.size w w3) := HB2.out.trans ((Hid.out q).mono HB2.out.size)
     clear q HZ2 HB2
     go_wp2_with fail
     refine (digits_any _).mono ?_
     rintro e w4 ⟨rfl, q⟩
     have HZ4 : Hid (Blk w4 g 32 tkZ) := HZ3.out.below (Hid.out q) HZ3.out.lt
     have HB4 : Hid (Below w.heap.size w w4) := HB3.out.trans ((Hid.out q).mono HB3.out.size)
     clear q HZ3 HB3
     go_wp2_with fail
     refine (KHd _).mono ?_
     rintro e w5 ⟨rfl, q⟩
     have HZ5 : Hid (Blk w5 g 32 tkZ) := HZ4.out.below (Hid.out q) HZ4.out.lt
     have HB5 : Hid (Below w.heap.size w w5) := HB4.out.trans ((Hid.out q).mono HB4.out.size)
     clear q HZ4 HB4
     go_wp2_with fail
     refine (KW _).mono ?_
     rintro e w6 ⟨rfl, q⟩
     have HZ6 : Hid (Blk w6 g 32 tkZ) := HZ5.out.below (Hid.out q) HZ5.out.lt
     have HB6 : Hid (Below w.heap.size w w6) := HB5.out.trans ((Hid.out q).mono HB5.out.size)
     clear q HZ5 HB5
     dsimp only [AnsE]
     go_wp2_with (refine st_all rfl 32 (.tmp 2) (.tmp 45) rfl g 32 tkZ (tk1 (X.1, X.2.1, 0)) rfl rfl HZ6.out rfl sTk (one_k _ _) ?_)
     intro w98 b98 g98
     have HBB : Hid (Below w.heap.size w w98) := HB6.out.grown g98 HB6.out.size (fun k e => by injection e with e; omega)
     have HZZ : Hid (Blk w98 g 32 (tk1 (X.1, X.2.1, 0))) := b98
     clear b98 g98 HZ6 HB6
     go_wp2
     refine bodyPost_ret (res_two rfl _ g 32 _ _ rfl HZZ.out Tryz.underlying32 rfl sTk) rfl ?_
     exact ⟨rfl, HBB.out⟩
end Go.Proofs.YtpfiejmhnkcjbaaGreatDoor
