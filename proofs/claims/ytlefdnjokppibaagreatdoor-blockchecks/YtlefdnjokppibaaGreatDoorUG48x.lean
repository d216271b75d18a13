/-
  The document's Clone of a block. · The law BlockChecks, walked.
-/
import Derived.Test.YtlefdnjokppibaaGreatDoorUG38x
import Derived.Test.YtlefdnjokppibaaGreatDoorUG31x
import Derived.Test.YtlefdnjokppibaaGreatDoorUG47x
namespace Go.Proofs.YtlefdnjokppibaaGreatDoor.Sh
open Go Go.RowKit Math Mt
set_option linter.unusedVariables false
set_option linter.unusedSimpArgs false
/-- While the entries are copied. -/
structure CInv (w1 wr : World) (v : Value) (es : List En) (k : Nat) (is : List It) : Prop where
  row : RowE w1.heap.size wr v is
  bl : Below w1.heap.size w1 wr
  eq : is.map (·.e) = es.take k
  len : is.length = k
set_option maxHeartbeats 1000000 in
set_option maxRecDepth 8000 in
theorem rclone_any (b : Bk) (hb : BkW b) (hn : b.es.length ≤ 100000) (hws : ∀ e ∈ b.es, Go.Proofs.YtlefdnjokppibaaGreatDoor.ws e.v ≤ 100000) (a : Option Addr) (c : Nat) (w : World) (hE : EsM w a b.es) :
    Calls Tryz.prog 7 #[.agg (bC b a c).toArray] w fun e w' => ∃ a' c', e = .returned (.agg (bC b a' c').toArray) ∧ Hid (EsM w' a' b.es ∧ Below w.heap.size w w') := by
  have HL : Hid (b.pv.length = 32) := hb.pv.1
  have HB : Hid (BkW b) := hb
  have HE : Hid (EsM w a b.es) := hE
  have HW : Hid (∀ e ∈ b.es, Go.Proofs.YtlefdnjokppibaaGreatDoor.ws e.v ≤ 100000) := hws
  clear hb hE hws
  go_enter Tryz.func7, Tryz.ntmps7
  go_wp2_with (refine al_box rfl 26 (.tmp 0) rfl (bC b a c) rfl ?_)
  intro gb w1 l1 B1 G0
  have Z := (Below.refl w.heap.size w).grown G0 (Nat.le_refl _) (by simp)
  clear G0
  go_wp2_with (refine al_zero rfl 26 rfl (bC noB none 0) zBl ?_)
  intro g2 w2 l2 B2 G0
  have hg2 : Hid (w.heap.size ≤ g2) := Nat.le_trans Z.size l2
  have n12 : Hid (gb ≠ g2) := by have := B1.lt; show gb ≠ g2; omega
  have hgb : Hid (w.heap.size ≤ gb) := l1
  have HZ : Hid (Below w.heap.size w w2) := Z.grown G0 Z.size (by simp)
  have HB1 : Hid (Blk w2 gb 26 (bC b a c)) := B1.kept G0 (by simp)
  have HB2 : Hid (Blk w2 g2 26 (bC noB none 0)) := B2
  have hw02 : Hid (w.heap.size ≤ w2.heap.size) := HZ.out.size
  clear G0 B1 B2 Z l1 l2
  have HI0 : Hid (CInv w2 w2 (.slice none 0 0) b.es 0 []) := ⟨RowE.nil _ _, Below.refl _ _, by simp, rfl⟩
  go_wp2
  go_loopw [3, 4] (fun v i wr => ∃ (k : Nat) (is : List It), k ≤ b.es.length ∧ i = .int .i64 (k : Int) ∧ Hid (CInv w2 wr v b.es k is)) (fun _ i _ => b.es.length - (intOf i).toNat)
  case atStart => exact ⟨0, [], by omega, rfl, HI0.out⟩
  case round =>
    clear HI0
    obtain ⟨k, is, hk, rfl, HK⟩ := hrel
    have c35 := (bkF_of HL.out (HB1.out.below HK.out.bl HB1.out.lt)).es
    by_cases hlt : k < b.es.length
    case neg =>
      obtain ⟨a', c', hv, hesm⟩ := HK.out.row.esm
      have hisl : is.length = b.es.length := by rw [HK.out.len]; omega
      have HEQ : Hid (is.map (·.e) = b.es) := by have h := HK.out.eq; rw [List.take_of_length_le (by omega)] at h; exact h
      rw [hisl] at hv
      rw [HEQ.out] at hesm
      have HEM : Hid (EsM wr a' b.es) := hesm
      have BR := HB1.out.below HK.out.bl HB1.out.lt
      have HB2r : Hid (Blk wr g2 26 (bC noB none 0)) := HB2.out.below HK.out.bl HB2.out.lt
      have HZr : Hid (Below w.heap.size w wr) := HZ.out.trans (HK.out.bl.mono hw02.out)
      have HCmp : Hid ((Value.slice a' b.es.length c').ownBlock ≠ some gb ∧ (Value.slice a' b.es.length c').ownBlock ≠ some g2) := by
        have h := HK.out.row.row
        rw [hv] at h
        refine ⟨fun q => ?_, fun q => ?_⟩
        · have := (World.ownsRow.lt h _ q).1; have := HB1.out.lt; omega
        · have := (World.ownsRow.lt h _ q).1; have := HB2.out.lt; omega
      have HRow : Hid (RowE w2.heap.size wr (.slice a' b.es.length c') is) := by rw [← hv]; exact HK.out.row
      have hgbl : Hid (gb < w2.heap.size) := HB1.out.lt
      have hg2l : Hid (g2 < w2.heap.size) := HB2.out.lt
      subst hv
      clear HK hesm hisl
      go_wp2_with (refine st_one rfl 24 (.tmp 27) (.tmp 26) rfl gb 35 26 _ (.slice a' b.es.length c') rfl rfl rfl rfl (by rw [bC_len HL.out]; decide) BR s24' ?_)
      intro w3 B3' G0
      have B3 : Blk w3 gb 26 (bC b a' c') := by
        have q := hC_set HL.out (.slice a b.es.length c) (.slice a' b.es.length c')
        rw [show bC b a c = hC b (.slice a b.es.length c) from rfl, q] at B3'
        exact B3'
      have B4 := HB2r.out.kept G0 (fun e => n12.out (Option.some.inj e).symm)
      have HR3 : Hid (RowE w2.heap.size w3 (.slice a' b.es.length c') is) := HRow.out.kept G0 (fun x e => by have := Option.some.inj e; have := hgbl.out; omega)
      have Z3 := Sh.grown_below HZr.out G0 HZr.out.size hgb.out
      clear G0 B3' BR HRow HZr HB2r
      go_wp2_with (first
        | (refine ld_w (by rfl) 26 (.tmp 1) rfl gb 0 rfl (bC b a' c') _ B3.all Tryz.underlying26 rfl (sB HL.out _ _) ?_)
        | (refine st_all rfl 26 (.tmp 2) (.tmp 28) rfl g2 26 (bC noB none 0) (bC b a' c') rfl rfl B4 (by rw [bC_len HL.out, bC_len zr_len]) (sB HL.out _ _) (bC_one _ _ _) ?_))
      intro w4 B4' G0
      have HF : Hid (EsM w4 a' b.es ∧ Below w.heap.size w w4) := by
        have h := HR3.out.kept G0 (fun x e => by have := Option.some.inj e; have := hg2l.out; omega)
        obtain ⟨a9, c9, hv9, he9⟩ := h.esm
        injection hv9 with q1 q2 q3
        rw [HEQ.out] at he9
        exact ⟨by rw [q1]; exact he9, Sh.grown_below Z3 G0 Z3.size hg2.out⟩
      clear G0 B3 B4 HR3 Z3
      go_wp2
      (try simp only [Exit.inBlock, Exit.then])
      refine bodyPost_ret (Sh.res_row rfl _ g2 26 _ _ rfl B4' Tryz.underlying26 rfl (sB HL.out _ _)) rfl ⟨a', c', rfl, HF.out⟩
    obtain ⟨e, he⟩ : ∃ e, b.es[k]? = some e := ⟨_, List.getElem?_eq_getElem hlt⟩
    obtain ⟨bb, oo, na, nc, ka, kc, rfl, hM⟩ := HE.out.get he
    have hmem := List.mem_of_getElem? he
    have HEW : Hid (EnW e) := HB.out.es e hmem
    have HWE : Hid (Go.Proofs.YtlefdnjokppibaaGreatDoor.ws e.v ≤ 100000) := HW.out e hmem
    have HLh : Hid (e.h.length = 32) := HEW.out.h.1
    have HT : Hid (b.es.take (k + 1) = b.es.take k ++ [e]) := by
      obtain ⟨h1, h2⟩ := List.getElem?_eq_some_iff.1 he
      show _ = _
      rw [List.take_succ_eq_append_getElem h1, h2]
    have Zwr : Below w.heap.size w wr := HZ.out.trans (HK.out.bl.mono hw02.out)
    have HR : Hid (wr.rangeAt bb (oo + k * 46) (eC e na nc ka kc)) := (hM.below Zwr).at'
    have HVL : Hid (Vl wr e.v na nc ka kc) := hM.vl.below Zwr
    clear hM hmem Zwr he
    go_wp2_with (first | (refine ld_w (by rfl) 45 (.tmp 16) rfl bb (oo + k * 46) (by first | rfl | simp [Act.eval]) (eC e na nc ka kc) _ HR.out Tryz.underlying45 rfl (sE HLh.out _ _ _ _) ?_) | (refine al_zero rfl 45 rfl (eC e0 none 0 none 0) zEn ?_))
    intro g5 w3 l5 B5 GA
    have HLe : Hid ((eC e na nc ka kc).length = 46) := eC_len HLh.out _ _ _ _
    clear c35 HR
    go_wp2_with (refine st_all rfl 45 (.tmp 5) (.tmp 17) rfl g5 45 (eC e0 none 0 none 0) (eC e na nc ka kc) rfl rfl B5 (by rw [eC_len HLh.out, eC_len zr_len]) (sE HLh.out _ _ _ _) (eC_one _ _ _ _ _) ?_)
    intro w4 B5' GB
    have Z4 : Below wr.heap.size wr w4 := below_new GA l5 GB
    have B5 : Blk w4 g5 45 ([.int .i64 e.k, .string e.t, .int .i64 e.tb, .int .i64 e.dc, .int .i64 e.vr] ++ (six e.v.1 na nc ka e.v.2.list.length kc ++ (nums .u8 e.h ++ [.bool e.g, .int .i64 e.ab, .int .i64 e.ae]))) := B5'
    have hg4 : g5 < w4.heap.size := B5'.lt
    have HR5 : Hid (w4.rangeAt g5 5 (six e.v.1 na nc ka e.v.2.list.length kc)) := by have := (enF_of HLh.out B5'.all).v; rw [Nat.zero_add] at this; exact this
    have K := clone_any (wt e.v) e.v (Nat.le_refl _) HEW.out.v HWE.out na nc ka kc w4 (HVL.out.below Z4)
    clear GA GB B5' HVL
    go_wp2_with (refine ld_w (by rfl) 41 (.tmp 18) rfl g5 5 rfl (six e.v.1 na nc ka e.v.2.list.length kc) _ HR5.out Tryz.underlying41 rfl (szV _ _ _ _ _ _) ?_)
    refine K.mono ?_
    clear K HR5
    rintro e' w5 ⟨na', nc', ka', kc', rfl, H⟩
    obtain ⟨LL, q1, q2, q3, q4⟩ := H.out
    have HQ1 : Hid (VlL w5 e.v na' nc' ka' kc' LL) := q1
    have HQ2 : Hid (∀ x ∈ LL, w4.heap.size ≤ x ∧ x < w5.heap.size) := q2
    have HZ5 : Hid (Below wr.heap.size wr w5) := Z4.trans (q4.mono Z4.size)
    have hz4 : Hid (wr.heap.size ≤ w4.heap.size) := Z4.size
    have B5 := B5.below q4 B5.lt
    clear H q1 q2 q3 q4 Z4
    go_wp2_with (refine st_row rfl 41 (.tmp 21) (.tmp 20) rfl g5 5 45 [.int .i64 e.k, .string e.t, .int .i64 e.tb, .int .i64 e.dc, .int .i64 e.vr] (six e.v.1 na nc ka e.v.2.list.length kc) (nums .u8 e.h ++ [.bool e.g, .int .i64 e.ab, .int .i64 e.ae]) (six e.v.1 na' nc' ka' e.v.2.list.length kc') rfl rfl rfl B5 rfl (szV _ _ _ _ _ _) (six_one _ _ _ _ _ _) ?_)
    intro w6 B6' G6
    have B6 : Blk w6 g5 45 (eC e na' nc' ka' kc') := B6'
    have Z6 : Hid (Below wr.heap.size wr w6) := Sh.grown_below HZ5.out G6 HZ5.out.size l5
    have VV : Hid (VNew wr w6 e.v na' nc' ka' kc') := by
      refine ⟨LL, HQ1.out.keep fun x hx => G6.block x (HQ2.out x hx).2 (fun q => ?_), fun x hx => ⟨?_, ?_⟩⟩
      · have := Option.some.inj q; have := (HQ2.out x hx).1; omega
      · have := (HQ2.out x hx).1; have := hz4.out; omega
      · have := (HQ2.out x hx).2; have := G6.size; omega
    have ROW : Hid (RowE w2.heap.size w6 u3 is) := HK.out.row.be Z6.out
    have hnv : Hid (∀ x, u3.ownBlock = some x → x < wr.heap.size) := fun x q => (World.ownsRow.lt HK.out.row.row x q).2
    have HEQ : Hid (is.map (·.e) = b.es.take k ∧ is.length = k) := ⟨HK.out.eq, HK.out.len⟩
    have hisk : is.length ≤ 100000 := by have := HK.out.len; omega
    have HZw : Hid (Below w2.heap.size w2 w6) := HK.out.bl.trans (Z6.out.mono HK.out.bl.size)
    have hzw : w2.heap.size ≤ w6.heap.size := HZw.out.size
    have hwrw2 : Hid (w2.heap.size ≤ wr.heap.size) := HK.out.bl.size
    have HLe2 : Hid ((eC e na' nc' ka' kc').length = 46) := eC_len HLh.out _ _ _ _
    clear G6 B6' B5 HQ1 HQ2 HZ5 HK
    go_wp2_with (first | (refine ld_w (by rfl) 45 (.tmp 5) rfl g5 0 rfl (eC e na' nc' ka' kc') _ B6.all Tryz.underlying45 rfl (sE HLh.out _ _ _ _) ?_) | (refine bs_en rfl (.tmp 23) rfl (eC e na' nc' ka' kc') HLe2.out rfl ?_) | (at_builtin; go_must (refine app_en rfl (.tmp 22) (.tmp 24) rfl w2.heap.size u3 is.length (is.flatMap itC) rfl (ROW.out.row.alloc _) w6.heap.size 1 1 (eC e na' nc' ka' kc') rfl (by rw [HLe2.out]) (fun j u hj => by rw [World.cell?_alloc_new]; show (eC e na' nc' ka' kc').toArray[j]? = some u; rw [List.getElem?_toArray]; exact hj) (eC_one _ _ _ _ _) (by omega) (by simp; omega) ?_)))
    intro v7 x7 R7 G7 O7
    have ZA : Below w6.heap.size w6 (w6.alloc (.cells (eC e na' nc' ka' kc').toArray 45)) := (Below.refl _ _).alloc (Nat.le_refl _) _
    have hlo : ∀ z, u3.ownBlock = some z → w2.heap.size ≤ z := fun z e => (World.ownsRow.lt ROW.out.row z e).1
    have HI : Hid (CInv w2 x7 v7 b.es (k + 1) (is ++ [⟨e, na', nc', ka', kc'⟩])) := by
      refine ⟨?_, ?_, ?_, ?_⟩
      · obtain ⟨LL, q1, q2⟩ := VV.out.be ZA
        refine (ROW.out.be ZA).snoc (i := ⟨e, na', nc', ka', kc'⟩) HEW.out q1 (fun z hz => ⟨by have := (q2 z hz).1; have := hwrw2.out; omega, (q2 z hz).2, fun e => ?_⟩) R7 G7 (O7.imp id fun e => by rw [e]; simp)
        have h1 := hnv.out z e
        have h2 := (q2 z hz).1
        omega
      · exact (HZw.out.trans (ZA.mono hzw)).grown G7 (Nat.le_trans hzw ZA.size) (fun z e => hlo z e)
      · rw [List.map_append, HEQ.out.1, HT.out]; rfl
      · rw [List.length_append, HEQ.out.2]; rfl
    clear ZA R7 G7 O7 ROW VV hlo B6
    go_wp2
    go_roundw
    case rel => exact ⟨k + 1, _, by omega, by go_num, HI.out⟩
    case measure => simp [intOf]; omega
end Go.Proofs.YtlefdnjokppibaaGreatDoor.Sh
namespace Go.Proofs.YtlefdnjokppibaaGreatDoor.Sh
open Go Go.RowKit Math Mt
set_option linter.unusedVariables false
set_option linter.unusedSimpArgs false
theorem q_neh {C : World → Prop} {a : Act} {o : Oper} {K : Act → Prop} (x y : Operand) (ho : o.op = .binOp .neq 23 x y 23) (l m : List Nat) (hx : a.eval x = .agg (nums .u8 l).toArray) (hy : a.eval y = .agg (nums .u8 m).toArray) (he : ∀ w, (Op.equalIn 10000 23 (.agg (nums .u8 l).toArray) (.agg (nums .u8 m).toArray)).run Tryz.prog w = .ok true w) (hk : K (a.put o.dst (.bool false))) : o.quiet Tryz.prog a C K :=
  ⟨_, fun w _ => by
    have h2 := he w
    unfold Oper.quietAt execOp
    simp only [ho, hx, hy]
    go_simp, hk⟩
theorem light_lk5 {b : Bk} (hb : BkW b) (h : Light b) : ∀ e ∈ b.es, Lk e.v := fun e he => lk_ws (hb.es e he).v (by have := (h.all e he).1; omega)
theorem eq_self (l : List Nat) (h : H32 l) : ∀ w, (Op.equalIn 10000 23 (.agg (nums .u8 l).toArray) (.agg (nums .u8 l).toArray)).run Tryz.prog w = .ok true w := fun w => by have := eq_hash h h w; simpa using this
set_option maxHeartbeats 1000000 in
set_option maxRecDepth 8000 in
theorem blchk_walk (b : Bk) (hb : BkW b) (a : Option Addr) (c : Nat) (W : World) (hE : EsM W a b.es) (hT : Mer.Tb W) :
    Calls Tryz.prog 3 #[.agg (bC b a c).toArray] W fun e w' => e = .returned (.bool true) ∧ Below W.heap.size W w' := by
  have HL : Hid (b.pv.length = 32) := hb.pv.1
  have HB : Hid (BkW b) := hb
  have HE : Hid (EsM W a b.es) := hE
  have HT : Hid (Mer.Tb W) := hT
  clear hb hE hT
  go_enter Tryz.func3, Tryz.ntmps3
  go_wp2_with (refine al_box rfl 26 (.tmp 0) rfl (bC b a c) rfl ?_)
  intro g1 w1 l1 B1 G0
  have Z1 := (Below.refl W.heap.size W).grown G0 (Nat.le_refl _) (by simp)
  clear G0
  have HB1 : Hid (Blk w1 g1 26 (bC b a c)) := B1
  have KH := heavy_any b HB.out a c w1 (HE.out.below Z1)
  go_wp2_with (refine ld_w (by rfl) 26 (.tmp 1) rfl g1 0 rfl (bC b a c) _ HB1.out.all Tryz.underlying26 rfl (sB HL.out _ _) ?_)
  refine KH.mono ?_
  clear KH
  rintro e w2 ⟨t, rfl, H⟩
  have HZ : Hid (Below W.heap.size W w2) := Z1.trans (H.out.1.mono Z1.size)
  have HB1 : Hid (Blk w2 g1 26 (bC b a c)) := B1.below H.out.1 B1.lt
  have HLi : Hid (t = false → Light b) := H.out.2
  clear H Z1 B1
  cases t with
  | true =>
    go_wp2
    go_ret
    exact ⟨rfl, HZ.out⟩
  | false =>
  have HLg : Hid (Light b) := HLi.out rfl
  have HWS : Hid (∀ e ∈ b.es, Go.Proofs.YtlefdnjokppibaaGreatDoor.ws e.v ≤ 100000) := fun e he => by have := (HLg.out.all e he).1; omega
  have HLk : Hid (∀ e ∈ b.es, Lk e.v) := light_lk5 HB.out HLg.out
  have hl600 := HLg.out.len
  clear HLi
  have KC := rclone_any b HB.out (by omega) HWS.out a c w2 (HE.out.below HZ.out)
  go_wp2_with (refine ld_w (by rfl) 26 (.tmp 1) rfl g1 0 rfl (bC b a c) _ HB1.out.all Tryz.underlying26 rfl (sB HL.out _ _) ?_)
  refine KC.mono ?_
  clear KC
  rintro e w3 ⟨a3, c3, rfl, H⟩
  have HZ : Hid (Below W.heap.size W w3) := HZ.out.trans (H.out.2.mono HZ.out.size)
  have HB1 : Hid (Blk w3 g1 26 (bC b a c)) := HB1.out.below H.out.2 HB1.out.lt
  have HE3 : Hid (EsM w3 a3 b.es) := H.out.1
  clear H
  go_wp2_with (refine al_zero rfl 26 rfl (bC noB none 0) zBl ?_)
  intro g3 w4 l5 B5 GA
  go_wp2_with (refine st_all rfl 26 (.tmp 3) (.tmp 16) rfl g3 26 (bC noB none 0) (bC b a3 c3) rfl rfl B5 (by rw [bC_len HL.out, bC_len zr_len]) (sB HL.out _ _) (bC_one _ _ _) ?_)
  intro w5 B5' GB
  have G5 : Below w3.heap.size w3 w5 := below_new GA l5 GB
  have HZ : Hid (Below W.heap.size W w5) := HZ.out.trans (G5.mono HZ.out.size)
  have HB1 : Hid (Blk w5 g1 26 (bC b a c)) := HB1.out.below G5 HB1.out.lt
  have HB3 : Hid (Blk w5 g3 26 (bC b a3 c3)) := B5'
  have HE3 : Hid (EsM w5 a3 b.es) := HE3.out.below G5
  clear GA GB B5 B5' G5 l5
  have KE := bhsh_any b HB.out HLk.out a3 c3 w5 HE3.out (HT.out.grow HZ.out)
  have KF : Hid (∀ V, EsM V a b.es → Calls Tryz.prog 9 #[.agg (bC b a c).toArray] V fun e w' => e = .returned (.tuple #[.agg (nums .u8 (hsA b)).toArray, .int .i64 (chkB b)]) ∧ Hid (Below V.heap.size V w')) := fun V h => rbhsh_any b HB.out HWS.out a c V h
  have KG : Hid (∀ V, EsM V a3 b.es → Calls Tryz.prog 10 #[.agg (bC b a3 c3).toArray] V fun e w' => e = .returned (.int .i64 (chkB b)) ∧ Below V.heap.size V w') := fun V h => check_any b HB.out HLk.out a3 c3 V h
  have KI : Hid (∀ V, EsM V a b.es → Calls Tryz.prog 11 #[.agg (bC b a c).toArray] V fun e w' => e = .returned (.int .i64 (chkB b)) ∧ Hid (Below V.heap.size V w')) := fun V h => rchk_any b HB.out HWS.out a c V h
  have KJ : Hid (∀ V, Calls Tryz.prog 12 #[.agg (bC b a3 c3).toArray] V fun e w' => e = .returned (.agg (nums .u8 (D (hedB b))).toArray) ∧ Hid (Below V.heap.size V w')) := fun V => bhead_any b HB.out a3 c3 V
  have KK : Hid (∀ V, Calls Tryz.prog 13 #[.agg (bC b a c).toArray] V fun e w' => e = .returned (.agg (nums .u8 (D (hedB b))).toArray) ∧ Hid (Below V.heap.size V w')) := fun V => rhead_any b HB.out a c V
  obtain ⟨R, hR⟩ : ∃ R, Hid (chkB b = R) := ⟨_, rfl⟩
  obtain ⟨hs, hhs⟩ : ∃ hs, Hid (hsA b = hs) := ⟨_, rfl⟩
  obtain ⟨hd, hhd⟩ : ∃ hd, Hid (D (hedB b) = hd) := ⟨_, rfl⟩
  have H3s : Hid (H32 hs) := by rw [← hhs.out]; exact hsA32 b
  have H3d : Hid (H32 hd) := by rw [← hhd.out]; exact D32 _
  rw [hR.out, hhs.out] at KE KF
  rw [hR.out] at KG KI
  rw [hhd.out] at KJ KK
  have HLs : Hid (hs.length = 32) := H3s.out.1
  have HEQs := eq_self hs H3s.out
  have HEs : Hid (∀ w, (Op.equalIn 10000 23 (.agg (nums .u8 hs).toArray) (.agg (nums .u8 hs).toArray)).run Tryz.prog w = .ok true w) := HEQs
  have HEd : Hid (∀ w, (Op.equalIn 10000 23 (.agg (nums .u8 hd).toArray) (.agg (nums .u8 hd).toArray)).run Tryz.prog w = .ok true w) := eq_self hd H3d.out
  clear HEQs hR hhs hhd H3s H3d HLg
  have hRR : (R != R) = false := by simp
  have hRS : (R == R) = true := by simp
  go_wp2_with (refine ld_w (by rfl) 26 (.tmp 3) rfl g3 0 rfl (bC b a3 c3) _ HB3.out.all Tryz.underlying26 rfl (sB HL.out _ _) ?_)
  refine KE.mono ?_
  clear KE
  rintro e xa ⟨rfl, H⟩
  have HZ : Hid (Below W.heap.size W xa) := HZ.out.trans (H.out.mono HZ.out.size)
  have HB1 : Hid (Blk xa g1 26 (bC b a c)) := HB1.out.below H.out HB1.out.lt
  have HB3 : Hid (Blk xa g3 26 (bC b a3 c3)) := HB3.out.below H.out HB3.out.lt
  have HE3 : Hid (EsM xa a3 b.es) := HE3.out.below H.out
  clear H
  go_wp2_with (refine al_zero rfl 23 rfl (nums .u8 zr) zHt ?_)
  intro g4 xb l9 B9 GA
  go_wp2_with (refine st_all rfl 23 (.tmp 4) (.tmp 20) rfl g4 23 (nums .u8 zr) (nums .u8 hs) rfl rfl B9 (by rw [nums_length, nums_length, HLs.out]; rfl) (sH HLs.out) (nums_one _ _) ?_)
  intro xc B9' GB
  have G9 : Below xa.heap.size xa xc := below_new GA l9 GB
  have HZ : Hid (Below W.heap.size W xc) := HZ.out.trans (G9.mono HZ.out.size)
  have HB1 : Hid (Blk xc g1 26 (bC b a c)) := HB1.out.below G9 HB1.out.lt
  have HB3 : Hid (Blk xc g3 26 (bC b a3 c3)) := HB3.out.below G9 HB3.out.lt
  have HE3 : Hid (EsM xc a3 b.es) := HE3.out.below G9
  have HB4 : Hid (Blk xc g4 23 (nums .u8 hs)) := B9'
  clear GA GB B9 B9' G9 l9
  go_wp2_with (refine ld_w (by rfl) 26 (.tmp 1) rfl g1 0 rfl (bC b a c) _ HB1.out.all Tryz.underlying26 rfl (sB HL.out _ _) ?_)
  refine (KF.out xc (HE.out.below HZ.out)).mono ?_
  rintro e xd ⟨rfl, H⟩
  have HZ : Hid (Below W.heap.size W xd) := HZ.out.trans (H.out.mono HZ.out.size)
  have HB1 : Hid (Blk xd g1 26 (bC b a c)) := HB1.out.below H.out HB1.out.lt
  have HB3 : Hid (Blk xd g3 26 (bC b a3 c3)) := HB3.out.below H.out HB3.out.lt
  have HE3 : Hid (EsM xd a3 b.es) := HE3.out.below H.out
  have HB4 : Hid (Blk xd g4 23 (nums .u8 hs)) := HB4.out.below H.out HB4.out.lt
  clear H
  go_wp2_with (refine al_zero rfl 23 rfl (nums .u8 zr) zHt ?_)
  intro g6 xe l9 B9 GA
  go_wp2_with (refine st_all rfl 23 (.tmp 6) (.tmp 25) rfl g6 23 (nums .u8 zr) (nums .u8 hs) rfl rfl B9 (by rw [nums_length, nums_length, HLs.out]; rfl) (sH HLs.out) (nums_one _ _) ?_)
  intro xf B9' GB
  have G9 : Below xd.heap.size xd xf := below_new GA l9 GB
  have HZ : Hid (Below W.heap.size W xf) := HZ.out.trans (G9.mono HZ.out.size)
  have HB1 : Hid (Blk xf g1 26 (bC b a c)) := HB1.out.below G9 HB1.out.lt
  have HB3 : Hid (Blk xf g3 26 (bC b a3 c3)) := HB3.out.below G9 HB3.out.lt
  have HE3 : Hid (EsM xf a3 b.es) := HE3.out.below G9
  have HB4 : Hid (Blk xf g4 23 (nums .u8 hs)) := HB4.out.below G9 HB4.out.lt
  have HB6 : Hid (Blk xf g6 23 (nums .u8 hs)) := B9'
  clear GA GB B9 B9' G9 l9
  clear KF
  obtain ⟨C, hC⟩ : ∃ C : World → Prop, C = fun V => Below xf.heap.size xf V := ⟨_, rfl⟩
  have C0 : Hid (C { xf with drawn := xf.drawn + 1 }) := by rw [hC]; exact Below.drew (Below.refl _ _)
  have CO : Hid (∀ V, C V → Below xf.heap.size xf V) := fun V h => by rw [hC] at h; exact h
  have CK : Hid (∀ V V', C V → Below V.heap.size V V' → C V') := fun V V' h1 h2 => by rw [hC] at h1 ⊢; exact h1.trans (h2.mono h1.size)
  have F1 : Hid (∀ V, C V → V.rangeAt g1 0 (bC b a c)) := fun V h => (HB1.out.below (CO.out V h) HB1.out.lt).all
  have F3 : Hid (∀ V, C V → V.rangeAt g3 0 (bC b a3 c3)) := fun V h => (HB3.out.below (CO.out V h) HB3.out.lt).all
  have F4 : Hid (∀ V, C V → V.rangeAt g4 0 (nums .u8 hs)) := fun V h => (HB4.out.below (CO.out V h) HB4.out.lt).all
  have F6 : Hid (∀ V, C V → V.rangeAt g6 0 (nums .u8 hs)) := fun V h => (HB6.out.below (CO.out V h) HB6.out.lt).all
  have FM : Hid (∀ V, C V → EsM V a b.es ∧ EsM V a3 b.es) := fun V h => ⟨(HE.out.below HZ.out).below (CO.out V h), HE3.out.below (CO.out V h)⟩
  have P1 : Hid (∀ V, C V → Calls Tryz.prog 10 #[.agg (bC b a3 c3).toArray] V fun e w' => e = .returned (.int .i64 R) ∧ C w') := fun V h => (KG.out V (FM.out V h).2).mono (by rintro e w' ⟨rfl, q⟩; exact ⟨rfl, CK.out _ _ h q⟩)
  have P2 : Hid (∀ V, C V → Calls Tryz.prog 11 #[.agg (bC b a c).toArray] V fun e w' => e = .returned (.int .i64 R) ∧ C w') := fun V h => (KI.out V (FM.out V h).1).mono (by rintro e w' ⟨rfl, q⟩; exact ⟨rfl, CK.out _ _ h q.out⟩)
  have P3 : Hid (∀ V, C V → Calls Tryz.prog 12 #[.agg (bC b a3 c3).toArray] V fun e w' => e = .returned (.agg (nums .u8 hd).toArray) ∧ C w') := fun V h => (KJ.out V).mono (by rintro e w' ⟨rfl, q⟩; exact ⟨rfl, CK.out _ _ h q.out⟩)
  have P4 : Hid (∀ V, C V → Calls Tryz.prog 13 #[.agg (bC b a c).toArray] V fun e w' => e = .returned (.agg (nums .u8 hd).toArray) ∧ C w') := fun V h => (KK.out V).mono (by rintro e w' ⟨rfl, q⟩; exact ⟨rfl, CK.out _ _ h q.out⟩)
  clear hC
  go_wp2_with fail
  have hCp : ∀ p : Prop, (∀ W, C W → p) ↔ p := fun p => ⟨fun h => h _ C0.out, fun h _ _ => h⟩
  refine wp_region_quiet (C := C) (by kernel_rfl) (by kernel_rfl) C0.out ?_
  change wpQuiet _ _ _ _ (_ :: _ :: _ :: _ :: _ :: _ :: _ :: _ :: _ :: _ :: _ :: _ :: _ :: _ :: _ :: _ :: _ :: _ :: _ :: _ :: _ :: _ :: []) _
  repeat (first
    | go_big_quiet_skip
    | (go_big_quiet_want
       first
       | (refine q_load 26 (.tmp 1) rfl g1 0 rfl (bC b a c) _ F1.out Tryz.underlying26 rfl (sB HL.out _ _) ?_
          simp only [Act.put, List.setIfInBounds_toArray, List.set_cons_zero, List.set_cons_succ]
          go_big_quiet_on)
       | (refine q_load 26 (.tmp 3) rfl g3 0 rfl (bC b a3 c3) _ F3.out Tryz.underlying26 rfl (sB HL.out _ _) ?_
          simp only [Act.put, List.setIfInBounds_toArray, List.set_cons_zero, List.set_cons_succ]
          go_big_quiet_on)
       | (refine q_load 23 (.tmp 4) rfl g4 0 rfl (nums .u8 hs) _ F4.out Tryz.underlying23 rfl (sH HLs.out) ?_
          simp only [Act.put, List.setIfInBounds_toArray, List.set_cons_zero, List.set_cons_succ]
          go_big_quiet_on)
       | (refine q_load 23 (.tmp 6) rfl g6 0 rfl (nums .u8 hs) _ F6.out Tryz.underlying23 rfl (sH HLs.out) ?_
          simp only [Act.put, List.setIfInBounds_toArray, List.set_cons_zero, List.set_cons_succ]
          go_big_quiet_on)
       | (refine q_neh (.tmp 33) (.tmp 34) rfl hs hs rfl rfl HEs.out ?_
          simp only [Act.put, List.setIfInBounds_toArray, List.set_cons_zero, List.set_cons_succ]
          go_big_quiet_on)
       | (refine q_neh (.tmp 44) (.tmp 46) rfl hd hd rfl rfl HEd.out ?_
          simp only [Act.put, List.setIfInBounds_toArray, List.set_cons_zero, List.set_cons_succ]
          go_big_quiet_on)
       | (refine q_callv 10 _ _ rfl #[.agg (bC b a3 c3).toArray] (by rw [List.map_toArray]; rfl) (enters Tryz.func10 (by kernel_rfl) rfl) (.int .i64 R) P1.out ?_
          simp only [Act.put, List.setIfInBounds_toArray, List.set_cons_zero, List.set_cons_succ]
          go_big_quiet_on)
       | (refine q_callv 11 _ _ rfl #[.agg (bC b a c).toArray] (by rw [List.map_toArray]; rfl) (enters Tryz.func11 (by kernel_rfl) rfl) (.int .i64 R) P2.out ?_
          simp only [Act.put, List.setIfInBounds_toArray, List.set_cons_zero, List.set_cons_succ]
          go_big_quiet_on)
       | (refine q_callv 12 _ _ rfl #[.agg (bC b a3 c3).toArray] (by rw [List.map_toArray]; rfl) (enters Tryz.func12 (by kernel_rfl) rfl) (.agg (nums .u8 hd).toArray) P3.out ?_
          simp only [Act.put, List.setIfInBounds_toArray, List.set_cons_zero, List.set_cons_succ]
          go_big_quiet_on)
       | (refine q_callv 13 _ _ rfl #[.agg (bC b a c).toArray] (by rw [List.map_toArray]; rfl) (enters Tryz.func13 (by kernel_rfl) rfl) (.agg (nums .u8 hd).toArray) P4.out ?_
          simp only [Act.put, List.setIfInBounds_toArray, List.set_cons_zero, List.set_cons_succ]
          go_big_quiet_on)
       | (go_big_quiet_op
          go_big_quiet_on)))
  refine wpQuiet_nil ?_
  intro y4 h9
  have C4 : Hid (C y4) := h9
  clear h9
  have G9 := CO.out _ C4.out
  have HZ : Hid (Below W.heap.size W y4) := HZ.out.trans (G9.mono HZ.out.size)
  have HB1 : Hid (Blk y4 g1 26 (bC b a c)) := HB1.out.below G9 HB1.out.lt
  have HB3 : Hid (Blk y4 g3 26 (bC b a3 c3)) := HB3.out.below G9 HB3.out.lt
  have HE3 : Hid (EsM y4 a3 b.es) := HE3.out.below G9
  clear G9 C0 C4 CO CK F1 F3 F4 F6 FM hCp HB4 HB6 KG KI KJ KK HEs HEd HLs P1 P2 P3 P4
  go_wp2
  go_loopw [8] (fun i wr => ∃ k : Nat, k ≤ b.es.length ∧ i = .int .i64 (k : Int) ∧ Hid (Below y4.heap.size y4 wr)) (fun i _ => b.es.length - (intOf i).toNat)
  case atStart => exact ⟨0, by omega, rfl, Below.refl _ _⟩
  case round =>
    obtain ⟨k, hk, rfl, HK⟩ := hrel
    have HB1r : Hid (Blk wr g1 26 (bC b a c)) := HB1.out.below HK.out HB1.out.lt
    have HB3r : Hid (Blk wr g3 26 (bC b a3 c3)) := HB3.out.below HK.out HB3.out.lt
    have HZr : Hid (Below W.heap.size W wr) := HZ.out.trans (HK.out.mono HZ.out.size)
    have HE1r : Hid (EsM wr a b.es) := HE.out.below HZr.out
    have HE3r : Hid (EsM wr a3 b.es) := HE3.out.below HK.out
    have c1 := (bkF_of HL.out HB1r.out).es
    have c3' := (bkF_of HL.out HB3r.out).es
    by_cases hlt : k < b.es.length
    case pos =>
      obtain ⟨e, he⟩ : ∃ e, b.es[k]? = some e := ⟨_, List.getElem?_eq_getElem hlt⟩
      obtain ⟨b1, o1, na1, nc1, ka1, kc1, rfl, hM1⟩ := HE1r.out.get he
      obtain ⟨b3, o3, na3, nc3, ka3, kc3, rfl, hM3⟩ := HE3r.out.get he
      have hmem := List.mem_of_getElem? he
      have HEW : Hid (EnW e) := HB.out.es e hmem
      have HLh : Hid (e.h.length = 32) := HEW.out.h.1
      have KA := behsh_any e HEW.out (HLk.out e hmem) na3 nc3 ka3 kc3 wr hM3.vl
      have KB : Hid (∀ V, Vl V e.v na1 nc1 ka1 kc1 → Calls Tryz.prog 15 #[.agg (eC e na1 nc1 ka1 kc1).toArray] V fun e' w' => e' = .returned (.tuple #[.agg (nums .u8 (ehA e)).toArray, .int .i64 (mayE e)]) ∧ Hid (Below V.heap.size V w')) := fun V h => rehsh_any e HEW.out (HWS.out e hmem) na1 nc1 ka1 kc1 V h
      have HV1 : Hid (Vl wr e.v na1 nc1 ka1 kc1) := hM1.vl
      have HR1 : Hid (wr.rangeAt b1 (o1 + k * 46) (eC e na1 nc1 ka1 kc1)) := hM1.at'
      have HR3 : Hid (wr.rangeAt b3 (o3 + k * 46) (eC e na3 nc3 ka3 kc3)) := hM3.at'
      have H3e : Hid (H32 (ehA e)) := ehA32 e
      obtain ⟨hs, hhs⟩ : ∃ hs, Hid (ehA e = hs) := ⟨_, rfl⟩
      obtain ⟨R, hR⟩ : ∃ R, Hid (mayE e = R) := ⟨_, rfl⟩
      rw [hhs.out] at KA KB H3e
      rw [hR.out] at KA KB
      have HLs : Hid (hs.length = 32) := H3e.out.1
      have HES : Hid (∀ w, (Op.equalIn 10000 23 (.agg (nums .u8 hs).toArray) (.agg (nums .u8 hs).toArray)).run Tryz.prog w = .ok true w) := eq_self hs H3e.out
      have hRR : (R != R) = false := by simp
      have hRS : (R == R) = true := by simp
      clear hM1 hM3 hmem he hhs hR H3e HB1r HB3r HE1r HE3r
      go_wp2_with (refine ld_w (by rfl) 45 (.tmp 60) rfl b3 (o3 + k * 46) (by first | rfl | simp [Act.eval]) (eC e na3 nc3 ka3 kc3) _ HR3.out Tryz.underlying45 rfl (sE HLh.out _ _ _ _) ?_)
      refine KA.mono ?_
      clear KA HR3
      rintro e' x1 ⟨rfl, H⟩
      have HX : Hid (Below wr.heap.size wr x1) := H.out
      clear H
      go_wp2_with (refine al_zero rfl 23 rfl (nums .u8 zr) zHt ?_)
      intro g9 x2 l9 B9 GA
      go_wp2_with (refine st_all rfl 23 (.tmp 9) (.tmp 63) rfl g9 23 (nums .u8 zr) (nums .u8 hs) rfl rfl B9 (by rw [nums_length, nums_length, HLs.out]; rfl) (sH HLs.out) (nums_one _ _) ?_)
      intro x3 B9' GB
      have G9 : Below x1.heap.size x1 x3 := below_new GA l9 GB
      have HX3 : Hid (Below wr.heap.size wr x3) := HX.out.trans (G9.mono HX.out.size)
      have HB9 : Hid (Blk x3 g9 23 (nums .u8 hs)) := B9'
      have HR1x : Hid (x3.rangeAt b1 (o1 + k * 46) (eC e na1 nc1 ka1 kc1)) := range_below HR1.out HX3.out
      have c1x := (bkF_of HL.out (HB1.out.below (HK.out.trans (HX3.out.mono HK.out.size)) HB1.out.lt)).es
      clear GA GB B9 B9' G9 HX l9 c1 c3'
      have KA := KB.out x3 (HV1.out.below HX3.out)
      go_wp2_with (refine ld_w (by rfl) 45 (.tmp 69) rfl b1 (o1 + k * 46) (by first | rfl | simp [Act.eval]) (eC e na1 nc1 ka1 kc1) _ HR1x.out Tryz.underlying45 rfl (sE HLh.out _ _ _ _) ?_)
      refine KA.mono ?_
      clear KA KB HR1 HR1x HV1 c1x
      rintro e' x4 ⟨rfl, H⟩
      have HX4 : Hid (Below wr.heap.size wr x4) := HX3.out.trans (H.out.mono HX3.out.size)
      have HB9 : Hid (Blk x4 g9 23 (nums .u8 hs)) := HB9.out.below H.out HB9.out.lt
      clear H HX3
      go_wp2_with (refine al_zero rfl 23 rfl (nums .u8 zr) zHt ?_)
      intro g11 x5 l11 B11 GA
      go_wp2_with (refine st_all rfl 23 (.tmp 11) (.tmp 72) rfl g11 23 (nums .u8 zr) (nums .u8 hs) rfl rfl B11 (by rw [nums_length, nums_length, HLs.out]; rfl) (sH HLs.out) (nums_one _ _) ?_)
      intro x6 B11' GB
      have G6 : Below x4.heap.size x4 x6 := below_new GA l11 GB
      have HX6 : Hid (Below wr.heap.size wr x6) := HX4.out.trans (G6.mono HX4.out.size)
      have HB9 : Hid (Blk x6 g9 23 (nums .u8 hs)) := HB9.out.below G6 HB9.out.lt
      have HB11 : Hid (Blk x6 g11 23 (nums .u8 hs)) := B11'
      have HI : Hid (Below y4.heap.size y4 x6) := HK.out.trans (HX6.out.mono HK.out.size)
      clear GA GB B11 B11' G6 HX4 HX6 l11
      have hEQ := HES.out x6
      go_wp2_with (first | (refine ld_w (by rfl) 23 (.tmp 9) rfl g9 0 rfl (nums .u8 hs) _ HB9.out.all Tryz.underlying23 rfl (sH HLs.out) ?_) | (refine ld_w (by rfl) 23 (.tmp 11) rfl g11 0 rfl (nums .u8 hs) _ HB11.out.all Tryz.underlying23 rfl (sH HLs.out) ?_))
      go_roundw
      case rel => exact ⟨k + 1, by omega, by go_num, HI.out⟩
      case measure => simp [intOf]; omega
    have KB := blocks_same b HB.out a3 c3 a c wr HE3r.out HE1r.out
    go_wp2_with (first | (refine ld_w (by rfl) 26 (.tmp 3) rfl g3 0 rfl (bC b a3 c3) _ HB3r.out.all Tryz.underlying26 rfl (sB HL.out _ _) ?_) | (refine ld_w (by rfl) 26 (.tmp 1) rfl g1 0 rfl (bC b a c) _ HB1r.out.all Tryz.underlying26 rfl (sB HL.out _ _) ?_))
    refine KB.mono ?_
    clear KB c1 c3'
    rintro e z1 ⟨rfl, H⟩
    have HZ1 : Hid (Below W.heap.size W z1) := HZr.out.trans (H.out.mono HZr.out.size)
    clear H
    have KK := bknown_any z1
    go_wp2_with fail
    refine KK.mono ?_
    clear KK
    rintro e z2 ⟨rfl, H⟩
    have HF : Hid (Below W.heap.size W z2) := HZ1.out.trans (H.out.mono HZ1.out.size)
    clear H HZ1
    go_wp2
    go_ret
    exact ⟨rfl, HF.out⟩
end Go.Proofs.YtlefdnjokppibaaGreatDoor.Sh
