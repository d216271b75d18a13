/-
  The document's Check and Encode. · The document's Clone of a block.
-/
import Derived.Test.YtmbglggodifboaaGreatQBr10
import Derived.Test.YtmbglggodifboaaGreatQG41x
namespace Go.Proofs.YtmbglggodifboaaGreat.Sh
open Go Go.RowKit Math Mt
set_option linter.unusedVariables false
set_option linter.unusedSimpArgs false
theorem bool_of3 (p : Prop) : ∃ t : Bool, Hid (t = true ↔ p) := by
  by_cases h : p
  · exact ⟨true, ⟨fun _ => h, fun _ => rfl⟩⟩
  · exact ⟨false, ⟨fun q => (by cases q), fun q => absurd q h⟩⟩
theorem fst_here {es : List En} {k : Nat} {e : En} (h0 : fstE (es.take k) = 0) (he : es[k]? = some e) : (mayE e = 0 → fstE (es.take (k + 1)) = 0) ∧ (mayE e ≠ 0 → fstE es = mayE e) := by
  obtain ⟨h1, h2⟩ := List.getElem?_eq_some_iff.1 he
  have e1 : es.take (k + 1) = es.take k ++ [e] := by rw [List.take_succ_eq_append_getElem h1, h2]
  have e2 : fstE (es.take (k + 1)) = mayE e := by rw [e1]; exact fst_snoc h0
  refine ⟨fun h => by rw [e2, h], fun h => ?_⟩
  have e3 : es = es.take (k + 1) ++ es.drop (k + 1) := (List.take_append_drop _ _).symm
  rw [e3, fst_left (by rw [e2]; exact h), e2]
set_option maxHeartbeats 1000000 in
set_option maxRecDepth 8000 in
theorem rchk_any (b : Bk) (hb : BkW b) (hws : ∀ e ∈ b.es, Go.Proofs.YtmbglggodifboaaGreat.ws e.v ≤ 100000) (a : Option Addr) (c : Nat) (w : World) (hE : EsM w a b.es) :
    Calls Tryz.prog 20 #[.agg (bC b a c).toArray] w fun e' w' => e' = .returned (.int .i64 (chkB b)) ∧ Hid (Below w.heap.size w w') := by
  have HL : Hid (b.pv.length = 32) := hb.pv.1
  have HB : Hid (BkW b) := hb
  have HE : Hid (EsM w a b.es) := hE
  have HW : Hid (∀ e ∈ b.es, Go.Proofs.YtmbglggodifboaaGreat.ws e.v ≤ 100000) := hws
  have hlen := hb.len
  clear hb hE hws
  go_enter Tryz.func20, Tryz.ntmps20
  go_wp2_with (refine al_box rfl 26 (.tmp 0) rfl (bC b a c) rfl ?_)
  intro gb w1 l1 BB G0
  have HZ : Hid (Below w.heap.size w w1) := (Below.refl w.heap.size w).grown G0 (Nat.le_refl _) (by simp)
  clear G0
  have HBB : Hid (Blk w1 gb 26 (bC b a c)) := BB
  obtain ⟨c0, c1, c2, _, c35⟩ := bkF_of HL.out BB
  clear BB
  obtain ⟨t1, Ht1⟩ := bool_of3 (inP b.ix 0 2147483648)
  have K := in_any b.ix 0 2147483648 w1 t1 Ht1
  go_wp2_with fail
  refine K.mono ?_
  clear K
  rintro e' w1 ⟨rfl, rfl⟩
  cases t1 with
  | false =>
    have HC : Hid (chkB b = 1) := chk_head (fun q => (by cases Ht1.out.2 (q.1)))
    go_wp2
    go_ret
    exact ⟨by rw [HC.out] <;> rfl, HZ.out⟩
  | true =>
  have Pt1 : Hid (inP b.ix 0 2147483648) := Ht1.out.1 rfl
  clear Ht1
  obtain ⟨t2, Ht2⟩ := bool_of3 (inP b.tm 0 9007199254740992)
  have K := in_any b.tm 0 9007199254740992 w1 t2 Ht2
  go_wp2_with fail
  refine K.mono ?_
  clear K
  rintro e' w1 ⟨rfl, rfl⟩
  cases t2 with
  | false =>
    have HC : Hid (chkB b = 1) := chk_head (fun q => (by cases Ht2.out.2 (q.2.1)))
    go_wp2
    go_ret
    exact ⟨by rw [HC.out] <;> rfl, HZ.out⟩
  | true =>
  have Pt2 : Hid (inP b.tm 0 9007199254740992) := Ht2.out.1 rfl
  clear Ht2
  obtain ⟨t3, Ht3⟩ := bool_of3 (inP b.tx 0 9007199254740992)
  have K := in_any b.tx 0 9007199254740992 w1 t3 Ht3
  go_wp2_with fail
  refine K.mono ?_
  clear K
  rintro e' w1 ⟨rfl, rfl⟩
  cases t3 with
  | false =>
    have HC : Hid (chkB b = 1) := chk_head (fun q => (by cases Ht3.out.2 (q.2.2.1)))
    go_wp2
    go_ret
    exact ⟨by rw [HC.out] <;> rfl, HZ.out⟩
  | true =>
  have Pt3 : Hid (inP b.tx 0 9007199254740992) := Ht3.out.1 rfl
  clear Ht3
  obtain ⟨t4, Ht4⟩ := bool_of3 (inP (b.es.length : Int) 1 200)
  have K := in_any (b.es.length : Int) 1 200 w1 t4 Ht4
  go_wp2_with fail
  refine K.mono ?_
  clear K
  rintro e' w1 ⟨rfl, rfl⟩
  cases t4 with
  | false =>
    have HC : Hid (chkB b = 1) := chk_head (fun q => (by cases Ht4.out.2 (q.2.2.2)))
    go_wp2
    go_ret
    exact ⟨by rw [HC.out] <;> rfl, HZ.out⟩
  | true =>
  have Pt4 : Hid (inP (b.es.length : Int) 1 200) := Ht4.out.1 rfl
  clear Ht4
  have HH : Hid (HeadP b (b.es.length : Int)) := ⟨Pt1.out, Pt2.out, Pt3.out, Pt4.out⟩
  have hl2 : b.es.length ≤ 200 := by have := Pt4.out.2; omega
  clear Pt1 Pt2 Pt3 Pt4 c0 c1 c2 c35
  have hw01 : Hid (w.heap.size ≤ w1.heap.size) := HZ.out.size
  go_wp2
  go_loopw [3] (fun i wr => ∃ k : Nat, k ≤ b.es.length ∧ i = .int .i64 (k : Int) ∧ Hid (fstE (b.es.take k) = 0) ∧ Hid (Below w1.heap.size w1 wr)) (fun i _ => b.es.length - (intOf i).toNat)
  case atStart => exact ⟨0, by omega, rfl, rfl, Below.refl _ _⟩
  case round =>
    obtain ⟨k, hk, rfl, HF0, HK⟩ := hrel
    have c35 := (bkF_of HL.out (HBB.out.below HK.out HBB.out.lt)).es
    by_cases hlt : k < b.es.length
    case neg =>
      have HF : Hid (fstE b.es = 0) := by have h := HF0.out; rw [List.take_of_length_le (by omega)] at h; exact h
      have Zr : Below w.heap.size w wr := HZ.out.trans (HK.out.mono hw01.out)
      have HZr : Hid (Below w.heap.size w wr) := Zr
      have HBr : Hid (Blk wr gb 26 (bC b a c)) := HBB.out.below HK.out HBB.out.lt
      have K := rbts_any b HB.out HF.out hl2 HW.out a c true wr (HE.out.below Zr)
      have HCL : Hid (262144 < (blkB b true).length → chkB b = 5) := fun h => chk_long HH.out HF.out h
      have HCY : Hid (¬ 262144 < (blkB b true).length → chkB b = 0) := fun h => chk_yes HH.out HF.out h
      have HBL : Hid ((blkB b true).length ≤ 100000000) := by
        have h1 := itms_len true HB.out.es (fst_all HF.out)
        have h2 := hed_len HB.out
        have h3 := uv_ten b.es.length (by omega)
        show _ ≤ _
        unfold blkB
        simp only [List.length_append]
        omega
      obtain ⟨L, hL⟩ : ∃ L, Hid (blkB b true = L) := ⟨_, rfl⟩
      rw [hL.out] at K HCL HCY HBL
      clear hL HK HF0 Zr
      go_wp2_with (refine ld_w (by rfl) 26 (.tmp 1) rfl gb 0 rfl (bC b a c) _ HBr.out.all Tryz.underlying26 rfl (sB HL.out _ _) ?_)
      refine K.mono ?_
      clear K c35
      rintro e' w9 ⟨v9, rfl, Q⟩
      obtain ⟨ax, cx, rfl, hby, hnil, hlc, hcm⟩ := Q.out.1.byt
      have HF9 : Hid (Below w.heap.size w w9) := HZr.out.trans (Q.out.2.mono HZr.out.size)
      have hbl := HBL.out
      clear Q hby hnil HZr HBr
      by_cases h5 : 262144 < L.length
      · have HC : Hid (chkB b = 5) := HCL.out h5
        have hd : decide ((262144 : Int) < (L.length : Int)) = true := decide_eq_true (by omega)
        clear HCL HCY
        go_wp2
        go_ret
        exact ⟨by rw [HC.out] <;> rfl, HF9.out⟩
      · have HC : Hid (chkB b = 0) := HCY.out h5
        have hd : decide ((262144 : Int) < (L.length : Int)) = false := decide_eq_false (by omega)
        clear HCL HCY
        go_wp2
        go_ret
        exact ⟨by rw [HC.out] <;> rfl, HF9.out⟩
    obtain ⟨e, he⟩ : ∃ e, b.es[k]? = some e := ⟨_, List.getElem?_eq_getElem hlt⟩
    obtain ⟨bb, oo, na, nc, ka, kc, rfl, hM⟩ := HE.out.get he
    have hmem := List.mem_of_getElem? he
    have HEW : Hid (EnW e) := HB.out.es e hmem
    have HLh : Hid (e.h.length = 32) := HEW.out.h.1
    have Zr : Below w.heap.size w wr := HZ.out.trans (HK.out.mono hw01.out)
    have hM' := hM.below Zr
    have HR : Hid (wr.rangeAt bb (oo + k * 46) (eC e na nc ka kc)) := hM'.at'
    have HN0 : Hid (mayE e = 0 → fstE (b.es.take (k + 1)) = 0) := (fst_here HF0.out he).1
    have HN1 : Hid (mayE e ≠ 0 → chkB b = mayE e) := fun h => by
      have h2 := (fst_here HF0.out he).2 h
      rw [chk_may HH.out (by rw [h2]; exact h), h2]
    have K := rmay_any e HEW.out (HW.out e hmem) na nc ka kc wr hM'.vl
    obtain ⟨E, hE⟩ : ∃ E, Hid (mayE e = E) := ⟨_, rfl⟩
    rw [hE.out] at HN0 HN1 K
    clear hE hM hM' hmem Zr HF0 he
    go_wp2_with (refine ld_w (by rfl) 52 (.tmp 38) rfl bb (oo + k * 46) (by first | rfl | simp [Act.eval]) (eC e na nc ka kc) _ HR.out Tryz.underlying52 rfl (sE HLh.out _ _ _ _) ?_)
    refine K.mono ?_
    clear K c35 HR
    rintro e' w3 ⟨rfl, H3⟩
    have HN : Hid (Below w1.heap.size w1 w3) := HK.out.trans (H3.out.mono HK.out.size)
    clear H3 HK
    by_cases h0 : E = 0
    · subst h0
      have HF : Hid (fstE (b.es.take (k + 1)) = 0) := HN0.out rfl
      clear HN0 HN1
      go_wp2
      go_roundw
      case rel => exact ⟨k + 1, by omega, by go_num, HF.out, HN.out⟩
      case measure => simp [intOf]; omega
    · have HC : Hid (chkB b = E) := HN1.out h0
      have HF9 : Hid (Below w.heap.size w w3) := HZ.out.trans (HN.out.mono hw01.out)
      have hb1 : (E != 0) = true := bne_iff_ne.2 h0
      have hb2 : (E == 0) = false := beq_eq_false_iff_ne.2 h0
      clear HN0 HN1 HN
      go_wp2
      go_ret
      exact ⟨by rw [HC.out] <;> rfl, HF9.out⟩
set_option maxHeartbeats 1000000 in
set_option maxRecDepth 8000 in
theorem renc_any (b : Bk) (hb : BkW b) (hws : ∀ e ∈ b.es, Go.Proofs.YtmbglggodifboaaGreat.ws e.v ≤ 100000) (a : Option Addr) (c : Nat) (data : Bool) (w : World) (hE : EsM w a b.es) :
    Calls Tryz.prog 8 #[.agg (bC b a c).toArray, .bool data] w fun e w' => ∃ v, e = .returned (.tuple #[v, .int .i64 (chkB b)]) ∧ Hid (Own w' w.heap.size v (encL b data) ∧ Below w.heap.size w w') := by
  have HL : Hid (b.pv.length = 32) := hb.pv.1
  have HB : Hid (BkW b) := hb
  have HE : Hid (EsM w a b.es) := hE
  have HW : Hid (∀ e ∈ b.es, Go.Proofs.YtmbglggodifboaaGreat.ws e.v ≤ 100000) := hws
  clear hb hE hws
  go_enter Tryz.func8, Tryz.ntmps8
  go_wp2_with (refine al_box rfl 26 (.tmp 0) rfl (bC b a c) rfl ?_)
  intro gb w1 l1 BB G0
  have Z := (Below.refl w.heap.size w).grown G0 (Nat.le_refl _) (by simp)
  clear G0
  have K := rchk_any b HB.out HW.out a c w1 (HE.out.below Z)
  have HX : Hid (chkB b ≠ 0 → encL b data = []) := fun h => by unfold encL; rw [if_neg h]
  have HY : Hid (chkB b = 0 → encL b data = blkB b data ∧ fstE b.es = 0 ∧ b.es.length ≤ 200) := fun h => ⟨by unfold encL; rw [if_pos h], (chk_zero h).2.1, by have := (chk_zero h).1.2.2.2.2; omega⟩
  obtain ⟨E, hE⟩ : ∃ E, Hid (chkB b = E) := ⟨_, rfl⟩
  rw [hE.out] at HX HY K
  go_wp2_with (refine ld_w (by rfl) 26 (.tmp 2) rfl gb 0 rfl (bC b a c) _ BB.all Tryz.underlying26 rfl (sB HL.out _ _) ?_)
  refine K.mono ?_
  clear K
  rintro e' w2 ⟨rfl, H⟩
  have HZ : Hid (Below w.heap.size w w2) := Z.trans (H.out.mono Z.size)
  have HBB : Hid (Blk w2 gb 26 (bC b a c)) := BB.below H.out BB.lt
  clear H Z BB
  by_cases h0 : E = 0
  case neg =>
    have HF : Hid (Own w2 w.heap.size (.slice none 0 0) (encL b data) ∧ Below w.heap.size w w2) := ⟨by rw [HX.out h0]; exact World.ownsRow_nil _ _ _ _, HZ.out⟩
    have hb1 : (E != 0) = true := bne_iff_ne.2 h0
    have hb2 : (E == 0) = false := beq_eq_false_iff_ne.2 h0
    clear HX HY
    go_wp2
    go_ret2
    exact ⟨.slice none 0 0, by rw [hE.out] <;> rfl, HF.out⟩
  subst h0
  obtain ⟨q1, q2, q3⟩ := HY.out rfl
  have HQ : Hid (encL b data = blkB b data) := q1
  have K := rbts_any b HB.out q2 q3 HW.out a c data w2 (HE.out.below HZ.out)
  clear HX HY q1 q2 q3
  go_wp2_with (refine ld_w (by rfl) 26 (.tmp 2) rfl gb 0 rfl (bC b a c) _ HBB.out.all Tryz.underlying26 rfl (sB HL.out _ _) ?_)
  refine K.mono ?_
  clear K
  rintro e' w3 ⟨v3, rfl, H⟩
  have HF : Hid (Own w3 w.heap.size v3 (encL b data) ∧ Below w.heap.size w w3) := ⟨by rw [HQ.out]; exact own_mono H.out.1 HZ.out.size, HZ.out.trans (H.out.2.mono HZ.out.size)⟩
  clear H HBB HZ
  go_wp2
  go_ret2
  exact ⟨v3, by rw [hE.out] <;> rfl, HF.out⟩
end Go.Proofs.YtmbglggodifboaaGreat.Sh
namespace Go.Proofs.YtmbglggodifboaaGreat.Sh
open Go Go.RowKit Math Mt
set_option linter.unusedVariables false
set_option linter.unusedSimpArgs false
/-- While the entries are copied. -/
structure CInv (w1 wr : World) (v : Value) (es : List En) (k : Nat) (is : List It) : Prop where
  row : RowE w1.heap.size wr v is
  bl : Below w1.heap.size w1 wr
  eq : is.map (·.e) = es.take k
  len : is.length = k
set_option maxHeartbeats 1000000 in
set_option maxRecDepth 8000 in
theorem rclone_any (b : Bk) (hb : BkW b) (hn : b.es.length ≤ 100000) (hws : ∀ e ∈ b.es, Go.Proofs.YtmbglggodifboaaGreat.ws e.v ≤ 100000) (a : Option Addr) (c : Nat) (w : World) (hE : EsM w a b.es) :
    Calls Tryz.prog 6 #[.agg (bC b a c).toArray] w fun e w' => ∃ a' c', e = .returned (.agg (bC b a' c').toArray) ∧ Hid (EsM w' a' b.es ∧ Below w.heap.size w w') := by
  have HL : Hid (b.pv.length = 32) := hb.pv.1
  have HB : Hid (BkW b) := hb
  have HE : Hid (EsM w a b.es) := hE
  have HW : Hid (∀ e ∈ b.es, Go.Proofs.YtmbglggodifboaaGreat.ws e.v ≤ 100000) := hws
  clear hb hE hws
  go_enter Tryz.func6, Tryz.ntmps6
  go_wp2_with (refine al_box rfl 26 (.tmp 0) rfl (bC b a c) rfl ?_)
  intro gb w1 l1 B1 G0
  have Z := (Below.refl w.heap.size w).grown G0 (Nat.le_refl _) (by simp)
  clear G0
  go_wp2_with (refine al_zero rfl 26 rfl (bC noB none 0) zBl ?_)
  intro g2 w2 l2 B2 G0
  have hg2 : Hid (w.heap.size ≤ g2) := Nat.le_trans Z.size l2
  have n12 : Hid (gb ≠ g2) := by have := B1.lt; show gb ≠ g2; omega
  have hgb : Hid (w.heap.size ≤ gb) := l1
  have HZ : Hid (Below w.heap.size w w2) := Z.grown G0 Z.size (by simp)
  have HB1 : Hid (Blk w2 gb 26 (bC b a c)) := B1.kept G0 (by simp)
  have HB2 : Hid (Blk w2 g2 26 (bC noB none 0)) := B2
  have hw02 : Hid (w.heap.size ≤ w2.heap.size) := HZ.out.size
  clear G0 B1 B2 Z l1 l2
  have HI0 : Hid (CInv w2 w2 (.slice none 0 0) b.es 0 []) := ⟨RowE.nil _ _, Below.refl _ _, by simp, rfl⟩
  go_wp2
  go_loopw [3, 4] (fun v i wr => ∃ (k : Nat) (is : List It), k ≤ b.es.length ∧ i = .int .i64 (k : Int) ∧ Hid (CInv w2 wr v b.es k is)) (fun _ i _ => b.es.length - (intOf i).toNat)
  case atStart => exact ⟨0, [], by omega, rfl, HI0.out⟩
  case round =>
    clear HI0
    obtain ⟨k, is, hk, rfl, HK⟩ := hrel
    have c35 := (bkF_of HL.out (HB1.out.below HK.out.bl HB1.out.lt)).es
    by_cases hlt : k < b.es.length
    case neg =>
      obtain ⟨a', c', hv, hesm⟩ := HK.out.row.esm
      have hisl : is.length = b.es.length := by rw [HK.out.len]; omega
      have HEQ : Hid (is.map (·.e) = b.es) := by have h := HK.out.eq; rw [List.take_of_length_le (by omega)] at h; exact h
      rw [hisl] at hv
      rw [HEQ.out] at hesm
      have HEM : Hid (EsM wr a' b.es) := hesm
      have BR := HB1.out.below HK.out.bl HB1.out.lt
      have HB2r : Hid (Blk wr g2 26 (bC noB none 0)) := HB2.out.below HK.out.bl HB2.out.lt
      have HZr : Hid (Below w.heap.size w wr) := HZ.out.trans (HK.out.bl.mono hw02.out)
      have HCmp : Hid ((Value.slice a' b.es.length c').ownBlock ≠ some gb ∧ (Value.slice a' b.es.length c').ownBlock ≠ some g2) := by
        have h := HK.out.row.row
        rw [hv] at h
        refine ⟨fun q => ?_, fun q => ?_⟩
        · have := (World.ownsRow.lt h _ q).1; have := HB1.out.lt; omega
        · have := (World.ownsRow.lt h _ q).1; have := HB2.out.lt; omega
      have HRow : Hid (RowE w2.heap.size wr (.slice a' b.es.length c') is) := by rw [← hv]; exact HK.out.row
      have hgbl : Hid (gb < w2.heap.size) := HB1.out.lt
      have hg2l : Hid (g2 < w2.heap.size) := HB2.out.lt
      subst hv
      clear HK hesm hisl
      go_wp2_with (refine st_one rfl 24 (.tmp 27) (.tmp 26) rfl gb 35 26 _ (.slice a' b.es.length c') rfl rfl rfl rfl (by rw [bC_len HL.out]; decide) BR s24' ?_)
      intro w3 B3' G0
      have B3 : Blk w3 gb 26 (bC b a' c') := by
        have q := hC_set HL.out (.slice a b.es.length c) (.slice a' b.es.length c')
        rw [show bC b a c = hC b (.slice a b.es.length c) from rfl, q] at B3'
        exact B3'
      have B4 := HB2r.out.kept G0 (fun e => n12.out (Option.some.inj e).symm)
      have HR3 : Hid (RowE w2.heap.size w3 (.slice a' b.es.length c') is) := HRow.out.kept G0 (fun x e => by have := Option.some.inj e; have := hgbl.out; omega)
      have Z3 := Sh.grown_below HZr.out G0 HZr.out.size hgb.out
      clear G0 B3' BR HRow HZr HB2r
      go_wp2_with (first
        | (refine ld_w (by rfl) 26 (.tmp 1) rfl gb 0 rfl (bC b a' c') _ B3.all Tryz.underlying26 rfl (sB HL.out _ _) ?_)
        | (refine st_all rfl 26 (.tmp 2) (.tmp 28) rfl g2 26 (bC noB none 0) (bC b a' c') rfl rfl B4 (by rw [bC_len HL.out, bC_len zr_len]) (sB HL.out _ _) (bC_one _ _ _) ?_))
      intro w4 B4' G0
      have HF : Hid (EsM w4 a' b.es ∧ Below w.heap.size w w4) := by
        have h := HR3.out.kept G0 (fun x e => by have := Option.some.inj e; have := hg2l.out; omega)
        obtain ⟨a9, c9, hv9, he9⟩ := h.esm
        injection hv9 with q1 q2 q3
        rw [HEQ.out] at he9
        exact ⟨by rw [q1]; exact he9, Sh.grown_below Z3 G0 Z3.size hg2.out⟩
      clear G0 B3 B4 HR3 Z3
      go_wp2
      (try simp only [Exit.inBlock, Exit.then])
      refine bodyPost_ret (Sh.res_row rfl _ g2 26 _ _ rfl B4' Tryz.underlying26 rfl (sB HL.out _ _)) rfl ⟨a', c', rfl, HF.out⟩
    obtain ⟨e, he⟩ : ∃ e, b.es[k]? = some e := ⟨_, List.getElem?_eq_getElem hlt⟩
    obtain ⟨bb, oo, na, nc, ka, kc, rfl, hM⟩ := HE.out.get he
    have hmem := List.mem_of_getElem? he
    have HEW : Hid (EnW e) := HB.out.es e hmem
    have HWE : Hid (Go.Proofs.YtmbglggodifboaaGreat.ws e.v ≤ 100000) := HW.out e hmem
    have HLh : Hid (e.h.length = 32) := HEW.out.h.1
    have HT : Hid (b.es.take (k + 1) = b.es.take k ++ [e]) := by
      obtain ⟨h1, h2⟩ := List.getElem?_eq_some_iff.1 he
      show _ = _
      rw [List.take_succ_eq_append_getElem h1, h2]
    have Zwr : Below w.heap.size w wr := HZ.out.trans (HK.out.bl.mono hw02.out)
    have HR : Hid (wr.rangeAt bb (oo + k * 46) (eC e na nc ka kc)) := (hM.below Zwr).at'
    have HVL : Hid (Vl wr e.v na nc ka kc) := hM.vl.below Zwr
    clear hM hmem Zwr he
    go_wp2_with (first | (refine ld_w (by rfl) 52 (.tmp 16) rfl bb (oo + k * 46) (by first | rfl | simp [Act.eval]) (eC e na nc ka kc) _ HR.out Tryz.underlying52 rfl (sE HLh.out _ _ _ _) ?_) | (refine al_zero rfl 52 rfl (eC e0 none 0 none 0) zEn ?_))
    intro g5 w3 l5 B5 GA
    have HLe : Hid ((eC e na nc ka kc).length = 46) := eC_len HLh.out _ _ _ _
    clear c35 HR
    go_wp2_with (refine st_all rfl 52 (.tmp 5) (.tmp 17) rfl g5 52 (eC e0 none 0 none 0) (eC e na nc ka kc) rfl rfl B5 (by rw [eC_len HLh.out, eC_len zr_len]) (sE HLh.out _ _ _ _) (eC_one _ _ _ _ _) ?_)
    intro w4 B5' GB
    have Z4 : Below wr.heap.size wr w4 := below_new GA l5 GB
    have B5 : Blk w4 g5 52 ([.int .i64 e.k, .string e.t, .int .i64 e.tb, .int .i64 e.dc, .int .i64 e.vr] ++ (six e.v.1 na nc ka e.v.2.list.length kc ++ (nums .u8 e.h ++ [.bool e.g, .int .i64 e.ab, .int .i64 e.ae]))) := B5'
    have hg4 : g5 < w4.heap.size := B5'.lt
    have HR5 : Hid (w4.rangeAt g5 5 (six e.v.1 na nc ka e.v.2.list.length kc)) := by have := (enF_of HLh.out B5'.all).v; rw [Nat.zero_add] at this; exact this
    have K := clone_any (wt e.v) e.v (Nat.le_refl _) HEW.out.v HWE.out na nc ka kc w4 (HVL.out.below Z4)
    clear GA GB B5' HVL
    go_wp2_with (refine ld_w (by rfl) 48 (.tmp 18) rfl g5 5 rfl (six e.v.1 na nc ka e.v.2.list.length kc) _ HR5.out Tryz.underlying48 rfl (szV _ _ _ _ _ _) ?_)
    refine K.mono ?_
    clear K HR5
    rintro e' w5 ⟨na', nc', ka', kc', rfl, H⟩
    obtain ⟨LL, q1, q2, q3, q4⟩ := H.out
    have HQ1 : Hid (VlL w5 e.v na' nc' ka' kc' LL) := q1
    have HQ2 : Hid (∀ x ∈ LL, w4.heap.size ≤ x ∧ x < w5.heap.size) := q2
    have HZ5 : Hid (Below wr.heap.size wr w5) := Z4.trans (q4.mono Z4.size)
    have hz4 : Hid (wr.heap.size ≤ w4.heap.size) := Z4.size
    have B5 := B5.below q4 B5.lt
    clear H q1 q2 q3 q4 Z4
    go_wp2_with (refine st_row rfl 48 (.tmp 21) (.tmp 20) rfl g5 5 52 [.int .i64 e.k, .string e.t, .int .i64 e.tb, .int .i64 e.dc, .int .i64 e.vr] (six e.v.1 na nc ka e.v.2.list.length kc) (nums .u8 e.h ++ [.bool e.g, .int .i64 e.ab, .int .i64 e.ae]) (six e.v.1 na' nc' ka' e.v.2.list.length kc') rfl rfl rfl B5 rfl (szV _ _ _ _ _ _) (six_one _ _ _ _ _ _) ?_)
    intro w6 B6' G6
    have B6 : Blk w6 g5 52 (eC e na' nc' ka' kc') := B6'
    have Z6 : Hid (Below wr.heap.size wr w6) := Sh.grown_below HZ5.out G6 HZ5.out.size l5
    have VV : Hid (VNew wr w6 e.v na' nc' ka' kc') := by
      refine ⟨LL, HQ1.out.keep fun x hx => G6.block x (HQ2.out x hx).2 (fun q => ?_), fun x hx => ⟨?_, ?_⟩⟩
      · have := Option.some.inj q; have := (HQ2.out x hx).1; omega
      · have := (HQ2.out x hx).1; have := hz4.out; omega
      · have := (HQ2.out x hx).2; have := G6.size; omega
    have ROW : Hid (RowE w2.heap.size w6 u3 is) := HK.out.row.be Z6.out
    have hnv : Hid (∀ x, u3.ownBlock = some x → x < wr.heap.size) := fun x q => (World.ownsRow.lt HK.out.row.row x q).2
    have HEQ : Hid (is.map (·.e) = b.es.take k ∧ is.length = k) := ⟨HK.out.eq, HK.out.len⟩
    have hisk : is.length ≤ 100000 := by have := HK.out.len; omega
    have HZw : Hid (Below w2.heap.size w2 w6) := HK.out.bl.trans (Z6.out.mono HK.out.bl.size)
    have hzw : w2.heap.size ≤ w6.heap.size := HZw.out.size
    have hwrw2 : Hid (w2.heap.size ≤ wr.heap.size) := HK.out.bl.size
    have HLe2 : Hid ((eC e na' nc' ka' kc').length = 46) := eC_len HLh.out _ _ _ _
    clear G6 B6' B5 HQ1 HQ2 HZ5 HK
    go_wp2_with (first | (refine ld_w (by rfl) 52 (.tmp 5) rfl g5 0 rfl (eC e na' nc' ka' kc') _ B6.all Tryz.underlying52 rfl (sE HLh.out _ _ _ _) ?_) | (refine bs_en rfl (.tmp 23) rfl (eC e na' nc' ka' kc') HLe2.out rfl ?_) | (at_builtin; go_must (refine app_en rfl (.tmp 22) (.tmp 24) rfl w2.heap.size u3 is.length (is.flatMap itC) rfl (ROW.out.row.alloc _) w6.heap.size 1 1 (eC e na' nc' ka' kc') rfl (by rw [HLe2.out]) (fun j u hj => by rw [World.cell?_alloc_new]; show (eC e na' nc' ka' kc').toArray[j]? = some u; rw [List.getElem?_toArray]; exact hj) (eC_one _ _ _ _ _) (by omega) (by simp; omega) ?_)))
    intro v7 x7 R7 G7 O7
    have ZA : Below w6.heap.size w6 (w6.alloc (.cells (eC e na' nc' ka' kc').toArray 52)) := (Below.refl _ _).alloc (Nat.le_refl _) _
    have hlo : ∀ z, u3.ownBlock = some z → w2.heap.size ≤ z := fun z e => (World.ownsRow.lt ROW.out.row z e).1
    have HI : Hid (CInv w2 x7 v7 b.es (k + 1) (is ++ [⟨e, na', nc', ka', kc'⟩])) := by
      refine ⟨?_, ?_, ?_, ?_⟩
      · obtain ⟨LL, q1, q2⟩ := VV.out.be ZA
        refine (ROW.out.be ZA).snoc (i := ⟨e, na', nc', ka', kc'⟩) HEW.out q1 (fun z hz => ⟨by have := (q2 z hz).1; have := hwrw2.out; omega, (q2 z hz).2, fun e => ?_⟩) R7 G7 (O7.imp id fun e => by rw [e]; simp)
        have h1 := hnv.out z e
        have h2 := (q2 z hz).1
        omega
      · exact (HZw.out.trans (ZA.mono hzw)).grown G7 (Nat.le_trans hzw ZA.size) (fun z e => hlo z e)
      · rw [List.map_append, HEQ.out.1, HT.out]; rfl
      · rw [List.length_append, HEQ.out.2]; rfl
    clear ZA R7 G7 O7 ROW VV hlo B6
    go_wp2
    go_roundw
    case rel => exact ⟨k + 1, _, by omega, by go_num, HI.out⟩
    case measure => simp [intOf]; omega
end Go.Proofs.YtmbglggodifboaaGreat.Sh
