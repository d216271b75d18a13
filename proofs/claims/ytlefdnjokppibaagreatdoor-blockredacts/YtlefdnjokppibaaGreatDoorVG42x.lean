/-
  The document's Check and Encode. · The document's own Redact. · small: one with a table. · known: there and back. · Trees of digests over lists (no program): roots, ways up, paths, consistencies, and what they make again. · Consistencies over lists (no program).
-/
import Derived.Test.YtlefdnjokppibaaGreatDoorVG41x
import Derived.Test.YtlefdnjokppibaaGreatDoorVG37x
import Derived.Test.YtlefdnjokppibaaGreatDoorVG33x
import Derived.Test.YtlefdnjokppibaaGreatDoorRows
namespace Go.Proofs.YtlefdnjokppibaaGreatDoor.Sh
open Go Go.RowKit Math Mt
set_option linter.unusedVariables false
set_option linter.unusedSimpArgs false
theorem bool_of3 (p : Prop) : ∃ t : Bool, Hid (t = true ↔ p) := by
  by_cases h : p
  · exact ⟨true, ⟨fun _ => h, fun _ => rfl⟩⟩
  · exact ⟨false, ⟨fun q => (by cases q), fun q => absurd q h⟩⟩
theorem fst_here {es : List En} {k : Nat} {e : En} (h0 : fstE (es.take k) = 0) (he : es[k]? = some e) : (mayE e = 0 → fstE (es.take (k + 1)) = 0) ∧ (mayE e ≠ 0 → fstE es = mayE e) := by
  obtain ⟨h1, h2⟩ := List.getElem?_eq_some_iff.1 he
  have e1 : es.take (k + 1) = es.take k ++ [e] := by rw [List.take_succ_eq_append_getElem h1, h2]
  have e2 : fstE (es.take (k + 1)) = mayE e := by rw [e1]; exact fst_snoc h0
  refine ⟨fun h => by rw [e2, h], fun h => ?_⟩
  have e3 : es = es.take (k + 1) ++ es.drop (k + 1) := (List.take_append_drop _ _).symm
  rw [e3, fst_left (by rw [e2]; exact h), e2]
set_option maxHeartbeats 1000000 in
set_option maxRecDepth 8000 in
theorem rchk_any (b : Bk) (hb : BkW b) (hws : ∀ e ∈ b.es, Go.Proofs.YtlefdnjokppibaaGreatDoor.ws e.v ≤ 100000) (a : Option Addr) (c : Nat) (w : World) (hE : EsM w a b.es) :
    Calls Tryz.prog 11 #[.agg (bC b a c).toArray] w fun e' w' => e' = .returned (.int .i64 (chkB b)) ∧ Hid (Below w.heap.size w w') := by
  have HL : Hid (b.pv.length = 32) := hb.pv.1
  have HB : Hid (BkW b) := hb
  have HE : Hid (EsM w a b.es) := hE
  have HW : Hid (∀ e ∈ b.es, Go.Proofs.YtlefdnjokppibaaGreatDoor.ws e.v ≤ 100000) := hws
  have hlen := hb.len
  clear hb hE hws
  go_enter Tryz.func11, Tryz.ntmps11
  go_wp2_with (refine al_box rfl 26 (.tmp 0) rfl (bC b a c) rfl ?_)
  intro gb w1 l1 BB G0
  have HZ : Hid (Below w.heap.size w w1) := (Below.refl w.heap.size w).grown G0 (Nat.le_refl _) (by simp)
  clear G0
  have HBB : Hid (Blk w1 gb 26 (bC b a c)) := BB
  obtain ⟨c0, c1, c2, _, c35⟩ := bkF_of HL.out BB
  clear BB
  obtain ⟨t1, Ht1⟩ := bool_of3 (inP b.ix 0 2147483648)
  have K := in_any b.ix 0 2147483648 w1 t1 Ht1
  go_wp2_with fail
  refine K.mono ?_
  clear K
  rintro e' w1 ⟨rfl, rfl⟩
  cases t1 with
  | false =>
    have HC : Hid (chkB b = 1) := chk_head (fun q => (by cases Ht1.out.2 (q.1)))
    go_wp2
    go_ret
    exact ⟨by rw [HC.out] <;> rfl, HZ.out⟩
  | true =>
  have Pt1 : Hid (inP b.ix 0 2147483648) := Ht1.out.1 rfl
  clear Ht1
  obtain ⟨t2, Ht2⟩ := bool_of3 (inP b.tm 0 9007199254740992)
  have K := in_any b.tm 0 9007199254740992 w1 t2 Ht2
  go_wp2_with fail
  refine K.mono ?_
  clear K
  rintro e' w1 ⟨rfl, rfl⟩
  cases t2 with
  | false =>
    have HC : Hid (chkB b = 1) := chk_head (fun q => (by cases Ht2.out.2 (q.2.1)))
    go_wp2
    go_ret
    exact ⟨by rw [HC.out] <;> rfl, HZ.out⟩
  | true =>
  have Pt2 : Hid (inP b.tm 0 9007199254740992) := Ht2.out.1 rfl
  clear Ht2
  obtain ⟨t3, Ht3⟩ := bool_of3 (inP b.tx 0 9007199254740992)
  have K := in_any b.tx 0 9007199254740992 w1 t3 Ht3
  go_wp2_with fail
  refine K.mono ?_
  clear K
  rintro e' w1 ⟨rfl, rfl⟩
  cases t3 with
  | false =>
    have HC : Hid (chkB b = 1) := chk_head (fun q => (by cases Ht3.out.2 (q.2.2.1)))
    go_wp2
    go_ret
    exact ⟨by rw [HC.out] <;> rfl, HZ.out⟩
  | true =>
  have Pt3 : Hid (inP b.tx 0 9007199254740992) := Ht3.out.1 rfl
  clear Ht3
  obtain ⟨t4, Ht4⟩ := bool_of3 (inP (b.es.length : Int) 1 200)
  have K := in_any (b.es.length : Int) 1 200 w1 t4 Ht4
  go_wp2_with fail
  refine K.mono ?_
  clear K
  rintro e' w1 ⟨rfl, rfl⟩
  cases t4 with
  | false =>
    have HC : Hid (chkB b = 1) := chk_head (fun q => (by cases Ht4.out.2 (q.2.2.2)))
    go_wp2
    go_ret
    exact ⟨by rw [HC.out] <;> rfl, HZ.out⟩
  | true =>
  have Pt4 : Hid (inP (b.es.length : Int) 1 200) := Ht4.out.1 rfl
  clear Ht4
  have HH : Hid (HeadP b (b.es.length : Int)) := ⟨Pt1.out, Pt2.out, Pt3.out, Pt4.out⟩
  have hl2 : b.es.length ≤ 200 := by have := Pt4.out.2; omega
  clear Pt1 Pt2 Pt3 Pt4 c0 c1 c2 c35
  have hw01 : Hid (w.heap.size ≤ w1.heap.size) := HZ.out.size
  go_wp2
  go_loopw [3] (fun i wr => ∃ k : Nat, k ≤ b.es.length ∧ i = .int .i64 (k : Int) ∧ Hid (fstE (b.es.take k) = 0) ∧ Hid (Below w1.heap.size w1 wr)) (fun i _ => b.es.length - (intOf i).toNat)
  case atStart => exact ⟨0, by omega, rfl, rfl, Below.refl _ _⟩
  case round =>
    obtain ⟨k, hk, rfl, HF0, HK⟩ := hrel
    have c35 := (bkF_of HL.out (HBB.out.below HK.out HBB.out.lt)).es
    by_cases hlt : k < b.es.length
    case neg =>
      have HF : Hid (fstE b.es = 0) := by have h := HF0.out; rw [List.take_of_length_le (by omega)] at h; exact h
      have Zr : Below w.heap.size w wr := HZ.out.trans (HK.out.mono hw01.out)
      have HZr : Hid (Below w.heap.size w wr) := Zr
      have HBr : Hid (Blk wr gb 26 (bC b a c)) := HBB.out.below HK.out HBB.out.lt
      have K := rbts_any b HB.out HF.out hl2 HW.out a c true wr (HE.out.below Zr)
      have HCL : Hid (262144 < (blkB b true).length → chkB b = 5) := fun h => chk_long HH.out HF.out h
      have HCY : Hid (¬ 262144 < (blkB b true).length → chkB b = 0) := fun h => chk_yes HH.out HF.out h
      have HBL : Hid ((blkB b true).length ≤ 100000000) := by
        have h1 := itms_len true HB.out.es (fst_all HF.out)
        have h2 := hed_len HB.out
        have h3 := uv_ten b.es.length (by omega)
        show _ ≤ _
        unfold blkB
        simp only [List.length_append]
        omega
      obtain ⟨L, hL⟩ : ∃ L, Hid (blkB b true = L) := ⟨_, rfl⟩
      rw [hL.out] at K HCL HCY HBL
      clear hL HK HF0 Zr
      go_wp2_with (refine ld_w (by rfl) 26 (.tmp 1) rfl gb 0 rfl (bC b a c) _ HBr.out.all Tryz.underlying26 rfl (sB HL.out _ _) ?_)
      refine K.mono ?_
      clear K c35
      rintro e' w9 ⟨v9, rfl, Q⟩
      obtain ⟨ax, cx, rfl, hby, hnil, hlc, hcm⟩ := Q.out.1.byt
      have HF9 : Hid (Below w.heap.size w w9) := HZr.out.trans (Q.out.2.mono HZr.out.size)
      have hbl := HBL.out
      clear Q hby hnil HZr HBr
      by_cases h5 : 262144 < L.length
      · have HC : Hid (chkB b = 5) := HCL.out h5
        have hd : decide ((262144 : Int) < (L.length : Int)) = true := decide_eq_true (by omega)
        clear HCL HCY
        go_wp2
        go_ret
        exact ⟨by rw [HC.out] <;> rfl, HF9.out⟩
      · have HC : Hid (chkB b = 0) := HCY.out h5
        have hd : decide ((262144 : Int) < (L.length : Int)) = false := decide_eq_false (by omega)
        clear HCL HCY
        go_wp2
        go_ret
        exact ⟨by rw [HC.out] <;> rfl, HF9.out⟩
    obtain ⟨e, he⟩ : ∃ e, b.es[k]? = some e := ⟨_, List.getElem?_eq_getElem hlt⟩
    obtain ⟨bb, oo, na, nc, ka, kc, rfl, hM⟩ := HE.out.get he
    have hmem := List.mem_of_getElem? he
    have HEW : Hid (EnW e) := HB.out.es e hmem
    have HLh : Hid (e.h.length = 32) := HEW.out.h.1
    have Zr : Below w.heap.size w wr := HZ.out.trans (HK.out.mono hw01.out)
    have hM' := hM.below Zr
    have HR : Hid (wr.rangeAt bb (oo + k * 46) (eC e na nc ka kc)) := hM'.at'
    have HN0 : Hid (mayE e = 0 → fstE (b.es.take (k + 1)) = 0) := (fst_here HF0.out he).1
    have HN1 : Hid (mayE e ≠ 0 → chkB b = mayE e) := fun h => by
      have h2 := (fst_here HF0.out he).2 h
      rw [chk_may HH.out (by rw [h2]; exact h), h2]
    have K := rmay_any e HEW.out (HW.out e hmem) na nc ka kc wr hM'.vl
    obtain ⟨E, hE⟩ : ∃ E, Hid (mayE e = E) := ⟨_, rfl⟩
    rw [hE.out] at HN0 HN1 K
    clear hE hM hM' hmem Zr HF0 he
    go_wp2_with (refine ld_w (by rfl) 45 (.tmp 38) rfl bb (oo + k * 46) (by first | rfl | simp [Act.eval]) (eC e na nc ka kc) _ HR.out Tryz.underlying45 rfl (sE HLh.out _ _ _ _) ?_)
    refine K.mono ?_
    clear K c35 HR
    rintro e' w3 ⟨rfl, H3⟩
    have HN : Hid (Below w1.heap.size w1 w3) := HK.out.trans (H3.out.mono HK.out.size)
    clear H3 HK
    by_cases h0 : E = 0
    · subst h0
      have HF : Hid (fstE (b.es.take (k + 1)) = 0) := HN0.out rfl
      clear HN0 HN1
      go_wp2
      go_roundw
      case rel => exact ⟨k + 1, by omega, by go_num, HF.out, HN.out⟩
      case measure => simp [intOf]; omega
    · have HC : Hid (chkB b = E) := HN1.out h0
      have HF9 : Hid (Below w.heap.size w w3) := HZ.out.trans (HN.out.mono hw01.out)
      have hb1 : (E != 0) = true := bne_iff_ne.2 h0
      have hb2 : (E == 0) = false := beq_eq_false_iff_ne.2 h0
      clear HN0 HN1 HN
      go_wp2
      go_ret
      exact ⟨by rw [HC.out] <;> rfl, HF9.out⟩
end Go.Proofs.YtlefdnjokppibaaGreatDoor.Sh
namespace Go.Proofs.YtlefdnjokppibaaGreatDoor.Sh
open Go Go.RowKit Math Mt
set_option linter.unusedVariables false
set_option linter.unusedSimpArgs false
set_option maxHeartbeats 1000000 in
set_option maxRecDepth 8000 in
theorem rred_any (b : Bk) (hb : BkW b) (hn : b.es.length ≤ 100000) (hlk : ∀ e ∈ b.es, Lk e.v) (hws : ∀ e ∈ b.es, Go.Proofs.YtlefdnjokppibaaGreatDoor.ws e.v ≤ 100000) (i : Int) (a : Option Addr) (c : Nat) (w : World) (hE : EsM w a b.es) :
    Calls Tryz.prog 24 #[.agg (bC b a c).toArray, .int .i64 i] w fun e w' => RdR b i w e w' := by
  have HL : Hid (b.pv.length = 32) := hb.pv.1
  have HB : Hid (BkW b) := hb
  have HE : Hid (EsM w a b.es) := hE
  have KC : Hid (∀ V, EsM V a b.es → Calls Tryz.prog 11 #[.agg (bC b a c).toArray] V fun e w' => e = .returned (.int .i64 (chkB b)) ∧ Hid (Below V.heap.size V w')) := fun V h => (rchk_any b hb hws a c V h).mono (by rintro e w' ⟨rfl, q⟩; exact ⟨rfl, q.out⟩)
  have KD : Hid (∀ V, EsM V a b.es → Calls Tryz.prog 7 #[.agg (bC b a c).toArray] V fun e w' => ∃ a' c', e = .returned (.agg (bC b a' c').toArray) ∧ Hid ((∃ is, RowE V.heap.size w' (.slice a' b.es.length c') is ∧ is.map (·.e) = b.es) ∧ Below V.heap.size V w')) := fun V h => rclone_row b hb hn hws a c V h
  clear hb hE hlk hws
  go_enter Tryz.func24, Tryz.ntmps24
  go_wp2_with (refine al_box rfl 26 (.tmp 0) rfl (bC b a c) rfl ?_)
  intro gb w1 l1 B1 G0
  have Z := (Below.refl w.heap.size w).grown G0 (Nat.le_refl _) (by simp)
  clear G0
  go_wp2_with (refine al_zero rfl 26 rfl (bC noB none 0) zBl ?_)
  intro g4 w2 l2 B2 G0
  have hg4 : Hid (w.heap.size ≤ g4) := Nat.le_trans Z.size l2
  have HZ : Hid (Below w.heap.size w w2) := Z.grown G0 Z.size (by simp)
  have HB1 : Hid (Blk w2 gb 26 (bC b a c)) := B1.kept G0 (by simp)
  have HB4 : Hid (Blk w2 g4 26 (bC noB none 0)) := B2
  clear G0 B1 B2 Z l1 l2
  have K := KC.out w2 (HE.out.below HZ.out)
  obtain ⟨R, hR⟩ : ∃ R, Hid (chkB b = R) := ⟨_, rfl⟩
  rw [hR.out] at K
  go_wp2_with (refine ld_w (by rfl) 26 (.tmp 2) rfl gb 0 rfl (bC b a c) _ HB1.out.all Tryz.underlying26 rfl (sB HL.out _ _) ?_)
  refine K.mono ?_
  clear K KC
  rintro e w3 ⟨rfl, H⟩
  have HZ : Hid (Below w.heap.size w w3) := HZ.out.trans (H.out.mono HZ.out.size)
  have HB1 : Hid (Blk w3 gb 26 (bC b a c)) := HB1.out.below H.out HB1.out.lt
  have HB4 : Hid (Blk w3 g4 26 (bC noB none 0)) := HB4.out.below H.out HB4.out.lt
  clear H
  by_cases hR0 : R = 0
  case neg =>
    have HRd : Hid (redR b i = (R, noB)) := by have := red_bad (i := i) (show chkB b ≠ 0 by rw [hR.out]; exact hR0); rw [hR.out] at this; exact this
    go_wp2_with (first | (refine bd_w (by rfl) 26 #[] rfl (bC noB none 0) (bd_blk _) ?_) | (refine st_all rfl 26 (.tmp 4) (.tmp 12) rfl g4 26 (bC noB none 0) (bC noB none 0) rfl rfl HB4.out rfl (sB zr_len _ _) (bC_one _ _ _) ?_))
    intro w4 B4 G4
    have HF : Hid (redR b i = (R, noB) ∧ EsM w4 none noB.es ∧ Below w.heap.size w w4) := ⟨HRd.out, .inl rfl, Sh.grown_below HZ.out G4 HZ.out.size hg4.out⟩
    clear G4 HRd
    go_wp2
    (try simp only [Exit.inBlock, Exit.then])
    refine bodyPost_ret (res_two rfl _ g4 26 _ _ rfl B4 Tryz.underlying26 rfl (sB zr_len _ _)) rfl ⟨noB, R, none, 0, rfl, HF.out⟩
  subst hR0
  have c35 := (bkF_of HL.out HB1.out).es
  by_cases hi : i < 0
  case pos =>
    have HRd : Hid (redR b i = (7, noB)) := red_low hR.out hi
    go_wp2_with (first | (refine bd_w (by rfl) 26 #[] rfl (bC noB none 0) (bd_blk _) ?_) | (refine st_all rfl 26 (.tmp 4) (.tmp 32) rfl g4 26 (bC noB none 0) (bC noB none 0) rfl rfl HB4.out rfl (sB zr_len _ _) (bC_one _ _ _) ?_))
    intro w4 B4 G4
    have HF : Hid (redR b i = (7, noB) ∧ EsM w4 none noB.es ∧ Below w.heap.size w w4) := ⟨HRd.out, .inl rfl, Sh.grown_below HZ.out G4 HZ.out.size hg4.out⟩
    clear G4 HRd
    go_wp2
    (try simp only [Exit.inBlock, Exit.then])
    refine bodyPost_ret (res_two rfl _ g4 26 _ _ rfl B4 Tryz.underlying26 rfl (sB zr_len _ _)) rfl ⟨noB, 7, none, 0, rfl, HF.out⟩
  obtain ⟨k, rfl⟩ : ∃ k : Nat, i = (k : Int) := ⟨i.toNat, by omega⟩
  clear hi
  by_cases hlt : k < b.es.length
  case neg =>
    have HRd : Hid (redR b (k : Int) = (7, noB)) := red_far hR.out hlt
    go_wp2_with (first | (refine bd_w (by rfl) 26 #[] rfl (bC noB none 0) (bd_blk _) ?_) | (refine st_all rfl 26 (.tmp 4) (.tmp 32) rfl g4 26 (bC noB none 0) (bC noB none 0) rfl rfl HB4.out rfl (sB zr_len _ _) (bC_one _ _ _) ?_))
    intro w4 B4 G4
    have HF : Hid (redR b (k : Int) = (7, noB) ∧ EsM w4 none noB.es ∧ Below w.heap.size w w4) := ⟨HRd.out, .inl rfl, Sh.grown_below HZ.out G4 HZ.out.size hg4.out⟩
    clear G4 HRd
    go_wp2
    (try simp only [Exit.inBlock, Exit.then])
    refine bodyPost_ret (res_two rfl _ g4 26 _ _ rfl B4 Tryz.underlying26 rfl (sB zr_len _ _)) rfl ⟨noB, 7, none, 0, rfl, HF.out⟩
  obtain ⟨e, he⟩ : ∃ e, b.es[k]? = some e := ⟨_, List.getElem?_eq_getElem hlt⟩
  obtain ⟨bb, oo, na, nc, ka, kc, rfl, hM⟩ := (HE.out.below HZ.out).get he
  have HEW : Hid (EnW e) := HB.out.es e (List.mem_of_getElem? he)
  have HLh : Hid (e.h.length = 32) := HEW.out.h.1
  have HHE : Hid (b.es[k]? = some e) := he
  have ck := (enF_of HLh.out hM.at').k
  have cg := (enF_of HLh.out hM.at').g
  clear hM he
  obtain ⟨ek, hek⟩ : ∃ ek, Hid (e.k = ek) := ⟨_, rfl⟩
  obtain ⟨eg, heg⟩ : ∃ eg, Hid (e.g = eg) := ⟨_, rfl⟩
  rw [hek.out] at ck
  rw [heg.out] at cg
  by_cases hk2 : ek = 2
  case neg =>
    have HRd : Hid (redR b (k : Int) = (7, noB)) := red_kind hR.out HHE.out (by rw [hek.out]; exact hk2)
    have hne : (ek != 2) = true := by rw [bne_iff_ne]; exact hk2
    clear hk2
    go_wp2_with (first | (refine bd_w (by rfl) 26 #[] rfl (bC noB none 0) (bd_blk _) ?_) | (refine st_all rfl 26 (.tmp 4) (.tmp 32) rfl g4 26 (bC noB none 0) (bC noB none 0) rfl rfl HB4.out rfl (sB zr_len _ _) (bC_one _ _ _) ?_))
    intro w4 B4 G4
    have HF : Hid (redR b (k : Int) = (7, noB) ∧ EsM w4 none noB.es ∧ Below w.heap.size w w4) := ⟨HRd.out, .inl rfl, Sh.grown_below HZ.out G4 HZ.out.size hg4.out⟩
    clear G4 HRd
    go_wp2
    (try simp only [Exit.inBlock, Exit.then])
    refine bodyPost_ret (res_two rfl _ g4 26 _ _ rfl B4 Tryz.underlying26 rfl (sB zr_len _ _)) rfl ⟨noB, 7, none, 0, rfl, HF.out⟩
  subst hk2
  cases eg with
  | true =>
    have HRd : Hid (redR b (k : Int) = (23, noB)) := red_gone hR.out HHE.out hek.out heg.out
    go_wp2_with (first | (refine bd_w (by rfl) 26 #[] rfl (bC noB none 0) (bd_blk _) ?_) | (refine st_all rfl 26 (.tmp 4) (.tmp 39) rfl g4 26 (bC noB none 0) (bC noB none 0) rfl rfl HB4.out rfl (sB zr_len _ _) (bC_one _ _ _) ?_))
    intro w4 B4 G4
    have HF : Hid (redR b (k : Int) = (23, noB) ∧ EsM w4 none noB.es ∧ Below w.heap.size w w4) := ⟨HRd.out, .inl rfl, Sh.grown_below HZ.out G4 HZ.out.size hg4.out⟩
    clear G4 HRd
    go_wp2
    (try simp only [Exit.inBlock, Exit.then])
    refine bodyPost_ret (res_two rfl _ g4 26 _ _ rfl B4 Tryz.underlying26 rfl (sB zr_len _ _)) rfl ⟨noB, 23, none, 0, rfl, HF.out⟩
  | false =>
  have HRd : Hid (redR b (k : Int) = (0, redB b k e)) := red_ok hR.out HHE.out hek.out heg.out
  have K := KD.out w3 (HE.out.below HZ.out)
  go_wp2_with (refine ld_w (by rfl) 26 (.tmp 2) rfl gb 0 rfl (bC b (some ⟨bb, oo, none⟩) c) _ HB1.out.all Tryz.underlying26 rfl (sB HL.out _ _) ?_)
  refine K.mono ?_
  clear K KD c35 ck cg
  rintro e' w4 ⟨a', c', rfl, H⟩
  have HZ4 : Hid (Below w.heap.size w w4) := HZ.out.trans (H.out.2.mono HZ.out.size)
  have HB4' : Hid (Blk w4 g4 26 (bC noB none 0)) := HB4.out.below H.out.2 HB4.out.lt
  have hg43 : Hid (g4 < w3.heap.size) := HB4.out.lt
  have HRow : Hid (∃ is, RowE w3.heap.size w4 (.slice a' b.es.length c') is ∧ is.map (·.e) = b.es) := H.out.1
  have HK2 : Hid (e.k = 2) := hek.out
  clear H HB1 HB4 hR hek heg
  go_wp2_with (refine al_zero rfl 26 rfl (bC noB none 0) zBl ?_)
  intro g7 w5 l7 B7 GA
  go_wp2_with (refine st_all rfl 26 (.tmp 7) (.tmp 41) rfl g7 26 (bC noB none 0) (bC b a' c') rfl rfl B7 (by rw [bC_len HL.out, bC_len zr_len]) (sB HL.out _ _) (bC_one _ _ _) ?_)
  intro w6 B7' GB
  have G6 : Below w4.heap.size w4 w6 := below_new GA l7 GB
  obtain ⟨is, R4, hmap⟩ := HRow.out
  have R6 := R4.be G6
  obtain ⟨is1, na1, nc1, ka1, kc1, is2, rfl, hk1⟩ := its_split hmap HHE.out
  obtain ⟨g, sp, hg, hgB, hMg, hgL, hcm, hcn⟩ : ∃ g sp, a' = some ⟨g, 0, none⟩ ∧ Blk w6 g 45 ((is1 ++ (⟨e, na1, nc1, ka1, kc1⟩ : It) :: is2).flatMap itC ++ sp) ∧ w3.heap.size ≤ g ∧ ((is1 ++ (⟨e, na1, nc1, ka1, kc1⟩ : It) :: is2).flatMap itC ++ sp).length = c' * 46 ∧ c' ≤ maxLen ∧ b.es.length ≤ c' := by
    have hl : (is1 ++ (⟨e, na1, nc1, ka1, kc1⟩ : It) :: is2).length = b.es.length := by rw [← hmap, List.length_map]
    have hr := R6.row
    rw [hl] at hr
    obtain ⟨a'', c'', q, h1, h2⟩ := row_en hr
    injection q with e1 _ e3
    subst e1 e3
    rcases h2 with h | ⟨g, sp, q1, q2, q3, q4, q5⟩
    · omega
    · exact ⟨g, sp, q1, q2, q3, q4, q5, h1⟩
  subst hg
  have HR6 : Hid (RowE w3.heap.size w6 (.slice (some ⟨g, 0, none⟩) b.es.length c') (is1 ++ (⟨e, na1, nc1, ka1, kc1⟩ : It) :: is2)) := R6
  have HMp : Hid ((is1 ++ (⟨e, na1, nc1, ka1, kc1⟩ : It) :: is2).map (·.e) = b.es ∧ is1.length = k) := ⟨hmap, hk1⟩
  have e0 : (is1 ++ (⟨e, na1, nc1, ka1, kc1⟩ : It) :: is2).flatMap itC ++ sp = is1.flatMap itC ++ (eC e na1 nc1 ka1 kc1 ++ (is2.flatMap itC ++ sp)) := by simp [itC]
  rw [e0] at hgB hgL
  have HGB : Hid (Blk w6 g 45 (is1.flatMap itC ++ (eC e na1 nc1 ka1 kc1 ++ (is2.flatMap itC ++ sp)))) := hgB
  have HGL : Hid ((is1.flatMap itC ++ (eC e na1 nc1 ka1 kc1 ++ (is2.flatMap itC ++ sp))).length = c' * 46 ∧ c' ≤ maxLen ∧ b.es.length ≤ c' ∧ w3.heap.size ≤ g) := ⟨hgL, hcm, hcn, hMg⟩
  have HISL : Hid ((is1.flatMap itC).length = k * 46) := by
    show _ = _
    rw [its_len is1 (fun i hi => R6.ew i (by simp [hi])), hk1]
  have HZ6 : Hid (Below w.heap.size w w6) := HZ4.out.trans (G6.mono HZ4.out.size)
  have HB46 : Hid (Blk w6 g4 26 (bC noB none 0)) := HB4'.out.below G6 HB4'.out.lt
  have HB76 : Hid (Blk w6 g7 26 (bC b (some ⟨g, 0, none⟩) c')) := B7'
  have hg7 : Hid (g ≠ g7) := by
    have h1 := (World.ownsRow.lt R4.row g rfl).2
    show g ≠ g7
    omega
  have hlw : Hid (w.heap.size ≤ w3.heap.size) := HZ.out.size
  have c7 := (bkF_of HL.out B7').es
  have HLe : Hid ((eC e na1 nc1 ka1 kc1).length = 46) := eC_len HLh.out _ _ _ _
  clear HRow R4 R6 hmap hk1 hgB hgL hcm hcn hMg e0 GA GB B7 B7' G6 l7 HZ4 HB4' HZ
  go_wp2_with (refine st_one rfl 4 (.tmp 46) (.const (.bool true)) rfl g (k * 46 + 43) 45 _ (.bool true) (by first | rfl | simp [Act.eval]) rfl rfl rfl (by rw [List.length_append, List.length_append, HISL.out, HLe.out]; omega) HGB.out s_bool ?_)
  intro w7 B8 G7
  have HG7 : Hid (Blk w7 g 45 (is1.flatMap itC ++ (eC { e with g := true } na1 nc1 ka1 kc1 ++ (is2.flatMap itC ++ sp)))) := by
    rw [set_mid _ _ _ (k * 46) 43 _ HISL.out (by rw [HLe.out]; decide), eC_setg HLh.out] at B8
    exact B8
  have HGR : Hid (w6.grownBy w7 (some g)) := G7
  have c7' := (bkF_of HL.out (HB76.out.kept G7 (fun q => hg7.out (Option.some.inj q).symm))).es
  clear B8 G7 HGB c7
  go_wp2_with (first | (refine bd_w (by rfl) 41 #[] rfl (six nv.1 none 0 none nv.2.list.length 0) (bd_nv _) ?_) | (refine st_row rfl 41 (.tmp 52) (.tmp 50) rfl g (k * 46 + 5) 45 (is1.flatMap itC ++ [.int .i64 e.k, .string e.t, .int .i64 e.tb, .int .i64 e.dc, .int .i64 e.vr]) (six e.v.1 na1 nc1 ka1 e.v.2.list.length kc1) ((nums .u8 e.h ++ [.bool true, .int .i64 e.ab, .int .i64 e.ae]) ++ (is2.flatMap itC ++ sp)) (six nv.1 none 0 none nv.2.list.length 0) (by first | rfl | simp [Act.eval]) rfl (by rw [List.length_append, HISL.out]; rfl) (by have h := HG7.out; simpa [eC] using h) rfl (szV _ _ _ _ _ _) (six_one _ _ _ _ _ _) ?_))
  intro w8 B9 G8
  have HR8 : Hid (RowE w3.heap.size w8 (.slice (some ⟨g, 0, none⟩) b.es.length c') (is1 ++ (⟨{ e with g := true, v := nv }, none, 0, none, 0⟩ : It) :: is2)) := by
    obtain ⟨z1, z2, z3, z4⟩ := HGL.out
    refine HR6.out.put (i' := ⟨{ e with g := true, v := nv }, none, 0, none, 0⟩) (sp := sp) ?_ ⟨[], vl_lf w6 0 0 0 em, by simp⟩ (by simpa [itC, eC] using B9) (HGR.out.trans G8) ?_ z2 z3
    · have h := HEW.out
      exact ⟨h.k, h.t, h.tb, h.dc, h.vr, wf_nv, h.h, h.ab, h.ae⟩
    · simp only [List.length_append] at z1 ⊢
      rw [HLe.out] at z1
      rw [show (itC (⟨{ e with g := true, v := nv }, none, 0, none, 0⟩ : It)).length = 46 from eC_len (e := { e with g := true, v := nv }) HLh.out _ _ _ _]
      exact z1
  have hZ8 : Hid (Below w.heap.size w w8) := by
    have hg' : w.heap.size ≤ g := Nat.le_trans hlw.out HGL.out.2.2.2
    have h1 := Sh.grown_below HZ6.out HGR.out HZ6.out.size hg'
    exact Sh.grown_below h1 G8 h1.size hg'
  have hg48 : Hid (some g4 ≠ some g) := fun q => by have := Option.some.inj q; have := hg43.out; have := HGL.out.2.2.2; omega
  have B48 : Blk w8 g4 26 (bC noB none 0) := (HB46.out.kept HGR.out hg48.out).kept G8 hg48.out
  have B78 : Blk w8 g7 26 (bC b (some ⟨g, 0, none⟩) c') := (HB76.out.kept HGR.out (fun q => hg7.out (Option.some.inj q).symm)).kept G8 (fun q => hg7.out (Option.some.inj q).symm)
  clear B9 G8 HGR HG7 c7' HB46 HB76 HZ6 HR6
  go_wp2_with (first
    | (refine ld_w (by rfl) 26 (.tmp 7) rfl g7 0 rfl (bC b (some ⟨g, 0, none⟩) c') _ B78.all Tryz.underlying26 rfl (sB HL.out _ _) ?_)
    | (refine st_all rfl 26 (.tmp 4) (.tmp 53) rfl g4 26 (bC noB none 0) (bC b (some ⟨g, 0, none⟩) c') rfl rfl B48 (by rw [bC_len HL.out, bC_len zr_len]) (sB HL.out _ _) (bC_one _ _ _) ?_))
  intro w9 B4 G9
  have HF : Hid (redR b (k : Int) = (0, redB b k e) ∧ EsM w9 (some ⟨g, 0, none⟩) (redB b k e).es ∧ Below w.heap.size w w9) := by
    refine ⟨HRd.out, ?_, Sh.grown_below hZ8.out G9 hZ8.out.size hg4.out⟩
    have h := (HR8.out.kept G9 (fun x q => by have := Option.some.inj q; have := hg43.out; omega)).esm'
    rw [map_set HMp.out.1 HMp.out.2] at h
    have e2 : (redB b k e).es = b.es.set k { e with g := true, v := nv } := by
      unfold redB
      rw [gon_2 (show e.k = 2 from HK2.out)]
    rw [e2]
    exact h
  clear G9 HRd B78 B48 HR8 hZ8
  go_wp2
  (try simp only [Exit.inBlock, Exit.then])
  refine bodyPost_ret (res_two rfl _ g4 26 _ _ rfl B4 Tryz.underlying26 rfl (sB HL.out _ _)) rfl ⟨redB b k e, 0, some ⟨g, 0, none⟩, c', ?_, HF.out⟩
  rw [bC_red]
  rfl
end Go.Proofs.YtlefdnjokppibaaGreatDoor.Sh
namespace Go.Proofs.YtlefdnjokppibaaGreatDoor.Sh
open Go Go.RowKit Math Mt
set_option linter.unusedVariables false
set_option linter.unusedSimpArgs false
def smE : En := ⟨5, ⟨#[116]⟩, 1, 0, 0, nv, zr, false, 0, 0⟩
def smB : Bk := ⟨0, 0, 0, zr, [smE]⟩
theorem smE_w : EnW smE := ⟨⟨by decide, by decide⟩, by decide, ⟨by decide, by decide⟩, ⟨by decide, by decide⟩, ⟨by decide, by decide⟩, wf_nv, h32_zr, ⟨by decide, by decide⟩, ⟨by decide, by decide⟩⟩
theorem smB_w : BkW smB := ⟨⟨by decide, by decide⟩, ⟨by decide, by decide⟩, ⟨by decide, by decide⟩, h32_zr, fun e he => by rw [List.mem_singleton.1 he]; exact smE_w, by decide⟩
theorem smB_lk : ∀ e ∈ smB.es, Lk e.v := fun e he => by rw [List.mem_singleton.1 he]; exact lk_nv
theorem bd_sm (a : Act) : Tryz.prog.built 45 ((#[(0, .const (.int .i64 5)), (2, .const (.int .i64 1)), (1, .const (.string ⟨#[116]⟩))] : Array (Nat × Operand)).map fun p => (p.1, a.eval p.2)).toList = some (eC smE none 0 none 0).toArray := by kernel_rfl
theorem bd_sb (a : Act) (g : Nat) (hx : a.eval (.tmp 2) = .slice (some ⟨g, 0, none⟩) 1 1) : Tryz.prog.built 26 ((#[(4, .tmp 2)] : Array (Nat × Operand)).map fun p => (p.1, a.eval p.2)).toList = some (bC smB (some ⟨g, 0, none⟩) 1).toArray := by
  simp only [List.map_toArray, List.map_cons, List.map_nil, hx]
  kernel_rfl
set_option maxHeartbeats 400000 in
set_option maxRecDepth 8000 in
theorem small_any (w : World) :
    Calls Tryz.prog 42 #[] w fun e' w' => ∃ g, e' = .returned (.agg (bC smB (some ⟨g, 0, none⟩) 1).toArray) ∧ Hid (EsM w' (some ⟨g, 0, none⟩) smB.es ∧ Below w.heap.size w w') := by
  go_enter Tryz.func42, Tryz.ntmps42
  go_wp2_with (refine al_zero rfl 26 rfl (bC noB none 0) zBl ?_)
  intro g0 w1 l0 B0 G0
  have Z := (Below.refl w.heap.size w).grown G0 (Nat.le_refl _) (by simp)
  clear G0
  have B0' := B0.alloc (.cells (eC smE none 0 none 0).toArray 45)
  have HZ : Hid (Below w.heap.size w (w1.alloc (.cells (eC smE none 0 none 0).toArray 45))) := Z.alloc Z.size _
  have HR : Hid ((w1.alloc (.cells (eC smE none 0 none 0).toArray 45)).rangeAt w1.heap.size 0 (eC smE none 0 none 0)) := fun j u hj => by
    rw [Nat.zero_add, World.cell?_alloc_new]
    show (eC smE none 0 none 0).toArray[j]? = some u
    rw [List.getElem?_toArray]
    exact hj
  have hb0 := B0.lt
  clear Z B0
  go_wp2_with (first
    | (refine bd_w (by rfl) 45 _ rfl (eC smE none 0 none 0) (bd_sm _) ?_)
    | (refine bs_en rfl (.tmp 1) rfl (eC smE none 0 none 0) rfl rfl ?_)
    | (refine bd_w (by rfl) 26 _ rfl (bC smB (some ⟨w1.heap.size, 0, none⟩) 1) (bd_sb _ _ rfl) ?_)
    | (refine st_all rfl 26 (.tmp 0) (.tmp 3) rfl g0 26 (bC noB none 0) (bC smB (some ⟨w1.heap.size, 0, none⟩) 1) rfl rfl B0' rfl (sB zr_len _ _) (bC_one _ _ _) ?_))
  intro wz BZ G0
  have HF : Hid (EsM wz (some ⟨w1.heap.size, 0, none⟩) smB.es ∧ Below w.heap.size w wz) := by
    refine ⟨.inr ⟨w1.heap.size, 0, rfl, fun i e he => ?_⟩, Sh.grown_below HZ.out G0 HZ.out.size l0⟩
    obtain ⟨hi, he'⟩ := List.getElem?_eq_some_iff.1 he
    have hi0 : i = 0 := by have : i < 1 := hi; omega
    subst hi0
    obtain rfl : smE = e := he'
    refine ⟨none, 0, none, 0, fun j u hj => ?_, (vl_lf wz 0 0 0 em).vl⟩
    exact G0.cell (HR.out j u hj) (by intro e; have := Option.some.inj e; simp at this; omega)
  clear G0 B0' HR HZ
  go_wp2
  (try simp only [Exit.inBlock, Exit.then])
  refine bodyPost_ret (Sh.res_row rfl _ g0 26 _ _ rfl BZ Tryz.underlying26 rfl (sB zr_len _ _)) rfl ⟨w1.heap.size, rfl, HF.out⟩
end Go.Proofs.YtlefdnjokppibaaGreatDoor.Sh
namespace Go.Proofs.YtlefdnjokppibaaGreatDoor.Sh
open Go Go.RowKit Math Mt
set_option linter.unusedVariables false
set_option linter.unusedSimpArgs false
theorem sm_chk : chkB smB = 0 := by kernel_rfl
theorem no_chk : chkB noB = 1 := by kernel_rfl
theorem sm_enc : encL smB true = blkB smB true := by unfold encL; rw [if_pos sm_chk]
theorem sm_len : (blkB smB true).length ≤ 65536 := of_decide_eq_true (by kernel_rfl)
theorem sm_oct : Oct (blkB smB true) := blk_oct smB_w (chk_zero sm_chk).2.1 true
def smR : Rdr Nat := nR.bind fun _ => nR.bind fun _ => nR.bind fun _ => (takeR 32).bind fun _ => nR.bind fun n => .ret n
theorem sm_rd : (match smR (blkB smB true) with | .ok (n, q) => n == 1 && q.head? == some 5 | .error _ => false) = true := by kernel_rfl
theorem sm_sf : bSf (blkB smB true) := by
  intro ix tm tx n pv k es l1 l2 l3 l4 l5 r h1 h2 h3 h4 h5 hk h6 k' l' hb
  have e : smR (blkB smB true) = .ok (n, l5) := by
    unfold smR
    simp only [Rdr.bind, h1, h2, h3, h4, h5]
    rfl
  have g := sm_rd
  rw [e] at g
  simp only [Bool.and_eq_true, beq_iff_eq] at g
  obtain ⟨g1, g2⟩ := g
  obtain rfl : k = 0 := by omega
  obtain ⟨_, rfl⟩ := ret_inv h6
  cases r with
  | nil => cases g2
  | cons y t =>
    simp only [List.head?_cons, Option.some.injEq] at g2
    subst g2
    unfold byR at hb
    injection hb with hb
    injection hb with e1 _
    omega
theorem sm_dec : decB (blkB smB true) = 0 ∧ decK (blkB smB true) = smB := dec_bk smB_w sm_chk
set_option maxHeartbeats 1000000 in
set_option maxRecDepth 8000 in
theorem bknown_any (w : World) : Calls Tryz.prog 17 #[] w fun e' w' => e' = .returned (.bool true) ∧ Hid (Below w.heap.size w w') := by
  go_enter Tryz.func17, Tryz.ntmps17
  have K := small_any w
  go_wp2_with fail
  refine K.mono ?_
  clear K
  rintro e w1 ⟨g, rfl, H⟩
  have Z := H.out.2
  have K := enc_any smB smB_w smB_lk (some ⟨g, 0, none⟩) 1 true w1 H.out.1
  rw [sm_chk, sm_enc] at K
  clear H
  obtain ⟨L, hL⟩ : ∃ L, Hid (blkB smB true = L) := ⟨_, rfl⟩
  rw [hL.out] at K
  go_wp2_with fail
  refine K.mono ?_
  clear K
  rintro e w2 ⟨v, rfl, H⟩
  have Z := Z.trans (H.out.2.mono Z.size)
  have hO := H.out.1
  clear H
  obtain ⟨ax, cx, rfl, hB, hnil, hc, hcm⟩ := hO.byt
  unfold maxLen at hcm
  have HO : Hid (Own w2 w1.heap.size (.slice ax L.length cx) L) := hO
  have K := bdec_any w2 ax cx L hB hnil (by omega) (by omega) (by rw [← hL.out]; exact sm_oct) (by rw [← hL.out]; have := sm_len; omega) (by rw [← hL.out]; exact sm_sf)
  have e1 : decB L = 0 := by rw [← hL.out]; exact sm_dec.1
  have e2 : decK L = smB := by rw [← hL.out]; exact sm_dec.2
  rw [e1, e2] at K
  clear hB hnil hc hO HO e1
  go_wp2_with fail
  refine K.mono ?_
  clear K
  rintro e w3 ⟨a, c, rfl, H⟩
  have Z := Z.trans (H.out.bl.mono Z.size)
  have HE : Hid (EsM w3 a smB.es) := by have h := H.out.esm; rw [e2] at h; exact h
  clear H e2 hL
  go_wp2_with (refine al_zero rfl 26 rfl (bC noB none 0) zBl ?_)
  intro g3 w4 l3 B3 G0
  have Z6 := (Below.refl w3.heap.size w3).grown G0 (Nat.le_refl _) (by simp)
  clear G0
  go_wp2_with (refine st_all rfl 26 (.tmp 3) (.tmp 13) rfl g3 26 (bC noB none 0) (bC smB a c) rfl rfl B3 (by rw [bC_len (b := smB) zr_len, bC_len zr_len]) (sB (b := smB) zr_len _ _) (bC_one _ _ _) ?_)
  intro w5 B3' G0
  have Z7 := Sh.grown_below Z6 G0 Z6.size l3
  have HE : Hid (EsM w5 a smB.es) := HE.out.below Z7
  have HZ : Hid (Below w.heap.size w w5) := Z.trans (Z7.mono Z.size)
  have HB : Hid (Blk w5 g3 26 (bC smB a c)) := B3'
  clear B3' G0 Z6 Z7 Z B3
  obtain ⟨C, hC⟩ : ∃ C : World → Prop, C = fun W => Below w5.heap.size w5 W := ⟨_, rfl⟩
  have C0 : Hid (C { w5 with drawn := w5.drawn + 1 }) := by rw [hC]; exact Below.drew (Below.refl _ _)
  have CO : Hid (∀ W, C W → Below w5.heap.size w5 W) := fun W h => by rw [hC] at h; exact h
  have CB : Hid (∀ W W', C W → Below W.heap.size W W' → C W') := fun W W' h h2 => by rw [hC] at h ⊢; exact h.trans (h2.mono h.size)
  have FB : Hid (∀ W, C W → W.rangeAt g3 0 (bC smB a c)) := fun W h => (HB.out.below (CO.out W h) HB.out.lt).all
  have FE : Hid (∀ W, C W → EsM W a smB.es) := fun W h => HE.out.below (CO.out W h)
  clear hC
  go_wp2_with fail
  refine region_calm C 16 (by kernel_rfl) ?_
  have hCp : ∀ p : Prop, (∀ W, C W → p) ↔ p := fun p => ⟨fun h => h _ C0.out, fun h _ _ => h⟩
  generalize ({ w5 with drawn := w5.drawn + 1 } : World) = y0 at *
  refine seg 10 [0, 1, 2, 3, 4, 5, 6] rfl (by kernel_rfl) whole_blind (C0.out) (by kernel_rfl) ?_
  change wpQuiet _ _ _ _ (_ :: _ :: _ :: _ :: _ :: _ :: _ :: []) _
  repeat (first
    | go_big_quiet_skip
    | (go_big_quiet_want
       first
       | (go_big_quiet_op
          go_big_quiet_on)))
  refine wpQuiet_nil ?_
  refine seg 9 [7] rfl (by kernel_rfl) whole_blind (C0.out) (by kernel_rfl) ?_
  change wpQuiet _ _ _ _ (_ :: []) _
  repeat (first
    | go_big_quiet_skip
    | (go_big_quiet_want
       first
       | (refine q_load 26 (.tmp 3) rfl g3 0 rfl (bC smB a c) _ FB.out Tryz.underlying26 rfl (sB (b := smB) zr_len _ _) ?_
          simp only [Act.put, List.setIfInBounds_toArray, List.set_cons_zero, List.set_cons_succ]
          go_big_quiet_on)
       | (go_big_quiet_op
          go_big_quiet_on)))
  refine wpQuiet_nil ?_
  refine lone_do (i := 8) 8 rfl (by kernel_rfl) rfl (by rfl) ?_
  intro K hK
  refine oper_call 42 _ _ rfl #[] (by rw [List.map_toArray]; rfl) (enters Tryz.func42 (by kernel_rfl) rfl) (fun v w' => ∃ g, v = .agg (bC smB (some ⟨g, 0, none⟩) 1).toArray ∧ Hid (EsM w' (some ⟨g, 0, none⟩) smB.es ∧ Below y0.heap.size y0 w')) ((small_any y0).mono (by rintro e w' ⟨g, rfl, h⟩; exact ⟨_, rfl, g, rfl, h⟩)) ?_
  rintro v y1 ⟨gs, rfl, HS⟩
  have C1 : Hid (C y1) := CB.out y0 y1 C0.out HS.out.2
  refine hK _ _ (C1.out) ?_
  clear hK K
  simp only [Act.put, List.setIfInBounds_toArray, List.set_cons_zero, List.set_cons_succ]
  refine lone_do (i := 9) 7 rfl (by kernel_rfl) rfl (by rfl) ?_
  intro K hK
  refine oper_call 16 _ _ rfl #[.agg (bC smB a c).toArray, .agg (bC smB (some ⟨gs, 0, none⟩) 1).toArray] (by rw [List.map_toArray]; rfl) (enters Tryz.func16 (by kernel_rfl) rfl) (fun v w' => v = .bool true ∧ Hid (Below y1.heap.size y1 w')) ((blocks_same smB smB_w a c (some ⟨gs, 0, none⟩) 1 y1 (FE.out _ C1.out) HS.out.1).mono (by rintro e w' ⟨rfl, h⟩; exact ⟨_, rfl, rfl, h⟩)) ?_
  rintro v y2 ⟨rfl, H2⟩
  have C2 : Hid (C y2) := CB.out y1 y2 C1.out H2.out
  clear hCp
  have hCp : ∀ p : Prop, (∀ W, C W → p) ↔ p := fun p => ⟨fun h => h _ C2.out, fun h _ _ => h⟩
  refine hK _ _ (C2.out) ?_
  clear hK K
  simp only [Act.put, List.setIfInBounds_toArray, List.set_cons_zero, List.set_cons_succ]
  refine seg 4 [10, 11, 12] rfl (by kernel_rfl) whole_blind (C2.out) (by kernel_rfl) ?_
  change wpQuiet _ _ _ _ (_ :: _ :: _ :: []) _
  repeat (first
    | go_big_quiet_skip
    | (go_big_quiet_want
       first
       | (refine q_bd 26 #[] rfl (bC noB none 0) (bd_blk _) ?_
          simp only [Act.put, List.setIfInBounds_toArray, List.set_cons_zero, List.set_cons_succ]
          go_big_quiet_on)
       | (go_big_quiet_op
          go_big_quiet_on)))
  refine wpQuiet_nil ?_
  refine lone_do (i := 13) 3 rfl (by kernel_rfl) rfl (by rfl) ?_
  intro K hK
  refine oper_call 10 _ _ rfl #[.agg (bC noB none 0).toArray] (by rw [List.map_toArray]; rfl) (enters Tryz.func10 (by kernel_rfl) rfl) (fun v w' => v = .int .i64 1 ∧ Below y2.heap.size y2 w') ((check_any noB w_noB (by simp [noB]) none 0 y2 (.inl rfl)).mono (by rintro e w' ⟨rfl, h⟩; rw [no_chk]; exact ⟨_, rfl, rfl, h⟩)) ?_
  rintro v y3 ⟨rfl, H3⟩
  have C3 : Hid (C y3) := CB.out y2 y3 C2.out H3
  refine hK _ _ (C3.out) ?_
  clear hK K
  simp only [Act.put, List.setIfInBounds_toArray, List.set_cons_zero, List.set_cons_succ]
  refine seg 1 [14, 15] rfl (by kernel_rfl) whole_blind (C3.out) (by kernel_rfl) ?_
  change wpQuiet _ _ _ _ (_ :: _ :: []) _
  repeat (first
    | go_big_quiet_skip
    | (go_big_quiet_want
       first
       | (go_big_quiet_op
          go_big_quiet_on)))
  refine wpQuiet_nil ?_
  refine lone_calm (i := 16) 0 rfl (by kernel_rfl) rfl rfl (C3.out) ?_
  repeat (first
    | go_big_quiet_skip
    | (go_big_quiet_want
       first
       | (go_big_quiet_op
          go_big_quiet_on)))
  refine wpQuiet_nil ?_
  refine anyC_done (by kernel_rfl) ⟨rfl, ?_⟩
  have HF : Hid (Below w.heap.size w y3) := HZ.out.trans ((CO.out _ C3.out).mono HZ.out.size)
  clear C0 C1 C2 C3 CO CB FB FE hCp
  go_wp2
  go_ret
  exact ⟨rfl, HF.out⟩
end Go.Proofs.YtlefdnjokppibaaGreatDoor.Sh
namespace Go.Proofs.YtlefdnjokppibaaGreatDoor.Mer
namespace Mk

/-! ### powers of two -/
theorem pow_pos2 (n : Nat) : 0 < 2 ^ n := Nat.pow_pos (by decide)
theorem pow_split {a b : Nat} (h : a ≤ b) : 2 ^ b = 2 ^ a * 2 ^ (b - a) := by rw [← Nat.pow_add]; congr 1; omega
theorem pow_even {k : Nat} (h : 0 < k) : 2 ^ k = 2 * 2 ^ (k - 1) := by
  obtain ⟨j, rfl⟩ : ∃ j, k = j + 1 := ⟨k - 1, by omega⟩
  rw [Nat.pow_succ, Nat.mul_comm, Nat.add_sub_cancel]
theorem two_exists (n : Nat) (h : 2 ≤ n) : ∃ T, 2 ^ T < n ∧ n ≤ 2 ^ (T + 1) := by
  refine ⟨Nat.log2 (n - 1), ?_, ?_⟩
  · have := Nat.log2_self_le (n := n - 1) (by omega); omega
  · have := Nat.lt_log2_self (n := n - 1); omega
theorem two_one {n T T' : Nat} (h1 : 2 ^ T < n) (h2 : n ≤ 2 ^ (T + 1)) (h3 : 2 ^ T' < n) (h4 : n ≤ 2 ^ (T' + 1)) : T = T' := by
  rcases Nat.lt_trichotomy T T' with h | h | h
  · have := Nat.pow_le_pow_right (n := 2) (by decide) (show T + 1 ≤ T' by omega); omega
  · exact h
  · have := Nat.pow_le_pow_right (n := 2) (by decide) (show T' + 1 ≤ T by omega); omega
/-- the greatest power of two below n. -/
def hp (n : Nat) : Nat := 2 ^ Nat.log2 (n - 1)
theorem hp_of {n T : Nat} (h1 : 2 ^ T < n) (h2 : n ≤ 2 ^ (T + 1)) : hp n = 2 ^ T := by
  have hp0 := pow_pos2 T
  have a := Nat.log2_self_le (n := n - 1) (by omega)
  have b := Nat.lt_log2_self (n := n - 1)
  unfold hp
  rw [two_one (n := n) (T := Nat.log2 (n - 1)) (T' := T) (by omega) (by omega) h1 h2]

section
variable {H : Type} (nd : H → H → H) (em : H)

/-! ### the root -/
def rtF : Nat → List H → H
  | 0, l => l.headD em
  | f + 1, l => if l.length ≤ 1 then l.headD em else nd (rtF f (l.take (hp l.length))) (rtF f (l.drop (hp l.length)))
def R (l : List H) : H := rtF nd em l.length l
theorem rtF_eq : ∀ (f g : Nat) (l : List H), l.length ≤ f → l.length ≤ g → rtF nd em f l = rtF nd em g l
  | 0, 0, _, _, _ => rfl
  | 0, g + 1, l, h, _ => by rw [rtF, rtF, if_pos (by omega)]
  | f + 1, 0, l, _, h => by rw [rtF, rtF, if_pos (by omega)]
  | f + 1, g + 1, l, h1, h2 => by
    rw [rtF, rtF]
    by_cases hl : l.length ≤ 1
    · rw [if_pos hl, if_pos hl]
    · rw [if_neg hl, if_neg hl]
      obtain ⟨T, a, b⟩ := two_exists l.length (by omega)
      have e := hp_of a b
      have := pow_pos2 T
      have c : (l.take (hp l.length)).length ≤ l.length - 1 := by rw [List.length_take, e]; omega
      have d : (l.drop (hp l.length)).length ≤ l.length - 1 := by rw [List.length_drop, e]; omega
      rw [rtF_eq f g _ (by omega) (by omega), rtF_eq f g _ (by omega) (by omega)]
theorem R_one (x : H) : R nd em [x] = x := by show rtF nd em 1 [x] = x; rw [rtF, if_pos (by simp)]; rfl
theorem R_split {l : List H} {T : Nat} (h1 : 2 ^ T < l.length) (h2 : l.length ≤ 2 ^ (T + 1)) : R nd em l = nd (R nd em (l.take (2 ^ T))) (R nd em (l.drop (2 ^ T))) := by
  have := pow_pos2 T
  obtain ⟨f, hf⟩ : ∃ f, l.length = f + 1 := ⟨l.length - 1, by omega⟩
  show rtF nd em l.length l = _
  rw [hf, rtF, if_neg (by omega), hp_of h1 h2]
  show _ = nd (rtF nd em _ _) (rtF nd em _ _)
  rw [rtF_eq nd em f (l.take (2 ^ T)).length _ (by rw [List.length_take]; omega) (Nat.le_refl _), rtF_eq nd em f (l.drop (2 ^ T)).length _ (by rw [List.length_drop]; omega) (Nat.le_refl _)]

/-! ### halves beside a way -/
/-! ### segments -/
def sg (l : List H) (x : Nat × Nat) : List H := (l.drop (x.2 * 2 ^ x.1)).take (2 ^ x.1)
/-! ### what a path makes -/
end
end Mk
end Go.Proofs.YtlefdnjokppibaaGreatDoor.Mer
namespace Go.Proofs.YtlefdnjokppibaaGreatDoor.Mer
namespace Mk
section
variable {H : Type} (nd : H → H → H) (em : H)
end
end Mk
end Go.Proofs.YtlefdnjokppibaaGreatDoor.Mer
