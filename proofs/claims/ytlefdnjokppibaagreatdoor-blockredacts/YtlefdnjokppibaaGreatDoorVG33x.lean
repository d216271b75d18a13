/-
  The document's Clone of a block. · Two blocks that are the same. · Rows of entries that are copied whole and changed in place.
-/
import Derived.Test.YtlefdnjokppibaaGreatDoorVG32x
namespace Go.Proofs.YtlefdnjokppibaaGreatDoor.Sh
open Go Go.RowKit Math Mt
set_option linter.unusedVariables false
set_option linter.unusedSimpArgs false
/-- While the entries are copied. -/
structure CInv (w1 wr : World) (v : Value) (es : List En) (k : Nat) (is : List It) : Prop where
  row : RowE w1.heap.size wr v is
  bl : Below w1.heap.size w1 wr
  eq : is.map (·.e) = es.take k
  len : is.length = k
set_option maxHeartbeats 1000000 in
set_option maxRecDepth 8000 in
theorem rclone_row (b : Bk) (hb : BkW b) (hn : b.es.length ≤ 100000) (hws : ∀ e ∈ b.es, Go.Proofs.YtlefdnjokppibaaGreatDoor.ws e.v ≤ 100000) (a : Option Addr) (c : Nat) (w : World) (hE : EsM w a b.es) :
    Calls Tryz.prog 7 #[.agg (bC b a c).toArray] w fun e w' => ∃ a' c', e = .returned (.agg (bC b a' c').toArray) ∧ Hid ((∃ is, RowE w.heap.size w' (.slice a' b.es.length c') is ∧ is.map (·.e) = b.es) ∧ Below w.heap.size w w') := by
  have HL : Hid (b.pv.length = 32) := hb.pv.1
  have HB : Hid (BkW b) := hb
  have HE : Hid (EsM w a b.es) := hE
  have HW : Hid (∀ e ∈ b.es, Go.Proofs.YtlefdnjokppibaaGreatDoor.ws e.v ≤ 100000) := hws
  clear hb hE hws
  go_enter Tryz.func7, Tryz.ntmps7
  go_wp2_with (refine al_box rfl 26 (.tmp 0) rfl (bC b a c) rfl ?_)
  intro gb w1 l1 B1 G0
  have Z := (Below.refl w.heap.size w).grown G0 (Nat.le_refl _) (by simp)
  clear G0
  go_wp2_with (refine al_zero rfl 26 rfl (bC noB none 0) zBl ?_)
  intro g2 w2 l2 B2 G0
  have hg2 : Hid (w.heap.size ≤ g2) := Nat.le_trans Z.size l2
  have n12 : Hid (gb ≠ g2) := by have := B1.lt; show gb ≠ g2; omega
  have hgb : Hid (w.heap.size ≤ gb) := l1
  have HZ : Hid (Below w.heap.size w w2) := Z.grown G0 Z.size (by simp)
  have HB1 : Hid (Blk w2 gb 26 (bC b a c)) := B1.kept G0 (by simp)
  have HB2 : Hid (Blk w2 g2 26 (bC noB none 0)) := B2
  have hw02 : Hid (w.heap.size ≤ w2.heap.size) := HZ.out.size
  clear G0 B1 B2 Z l1 l2
  have HI0 : Hid (CInv w2 w2 (.slice none 0 0) b.es 0 []) := ⟨RowE.nil _ _, Below.refl _ _, by simp, rfl⟩
  go_wp2
  go_loopw [3, 4] (fun v i wr => ∃ (k : Nat) (is : List It), k ≤ b.es.length ∧ i = .int .i64 (k : Int) ∧ Hid (CInv w2 wr v b.es k is)) (fun _ i _ => b.es.length - (intOf i).toNat)
  case atStart => exact ⟨0, [], by omega, rfl, HI0.out⟩
  case round =>
    clear HI0
    obtain ⟨k, is, hk, rfl, HK⟩ := hrel
    have c35 := (bkF_of HL.out (HB1.out.below HK.out.bl HB1.out.lt)).es
    by_cases hlt : k < b.es.length
    case neg =>
      obtain ⟨a', c', hv, hesm⟩ := HK.out.row.esm
      have hisl : is.length = b.es.length := by rw [HK.out.len]; omega
      have HEQ : Hid (is.map (·.e) = b.es) := by have h := HK.out.eq; rw [List.take_of_length_le (by omega)] at h; exact h
      rw [hisl] at hv
      rw [HEQ.out] at hesm
      have HEM : Hid (EsM wr a' b.es) := hesm
      have BR := HB1.out.below HK.out.bl HB1.out.lt
      have HB2r : Hid (Blk wr g2 26 (bC noB none 0)) := HB2.out.below HK.out.bl HB2.out.lt
      have HZr : Hid (Below w.heap.size w wr) := HZ.out.trans (HK.out.bl.mono hw02.out)
      have HCmp : Hid ((Value.slice a' b.es.length c').ownBlock ≠ some gb ∧ (Value.slice a' b.es.length c').ownBlock ≠ some g2) := by
        have h := HK.out.row.row
        rw [hv] at h
        refine ⟨fun q => ?_, fun q => ?_⟩
        · have := (World.ownsRow.lt h _ q).1; have := HB1.out.lt; omega
        · have := (World.ownsRow.lt h _ q).1; have := HB2.out.lt; omega
      have HRow : Hid (RowE w2.heap.size wr (.slice a' b.es.length c') is) := by rw [← hv]; exact HK.out.row
      have hgbl : Hid (gb < w2.heap.size) := HB1.out.lt
      have hg2l : Hid (g2 < w2.heap.size) := HB2.out.lt
      subst hv
      clear HK hesm hisl
      go_wp2_with (refine st_one rfl 24 (.tmp 27) (.tmp 26) rfl gb 35 26 _ (.slice a' b.es.length c') rfl rfl rfl rfl (by rw [bC_len HL.out]; decide) BR s24' ?_)
      intro w3 B3' G0
      have B3 : Blk w3 gb 26 (bC b a' c') := by
        have q := hC_set HL.out (.slice a b.es.length c) (.slice a' b.es.length c')
        rw [show bC b a c = hC b (.slice a b.es.length c) from rfl, q] at B3'
        exact B3'
      have B4 := HB2r.out.kept G0 (fun e => n12.out (Option.some.inj e).symm)
      have HR3 : Hid (RowE w2.heap.size w3 (.slice a' b.es.length c') is) := HRow.out.kept G0 (fun x e => by have := Option.some.inj e; have := hgbl.out; omega)
      have Z3 := Sh.grown_below HZr.out G0 HZr.out.size hgb.out
      clear G0 B3' BR HRow HZr HB2r
      go_wp2_with (first
        | (refine ld_w (by rfl) 26 (.tmp 1) rfl gb 0 rfl (bC b a' c') _ B3.all Tryz.underlying26 rfl (sB HL.out _ _) ?_)
        | (refine st_all rfl 26 (.tmp 2) (.tmp 28) rfl g2 26 (bC noB none 0) (bC b a' c') rfl rfl B4 (by rw [bC_len HL.out, bC_len zr_len]) (sB HL.out _ _) (bC_one _ _ _) ?_))
      intro w4 B4' G0
      have HF : Hid ((∃ is, RowE w.heap.size w4 (.slice a' b.es.length c') is ∧ is.map (·.e) = b.es) ∧ Below w.heap.size w w4) := by
        exact ⟨⟨is, (HR3.out.kept G0 (fun x e => by have := Option.some.inj e; have := hg2l.out; omega)).mono hw02.out, HEQ.out⟩, Sh.grown_below Z3 G0 Z3.size hg2.out⟩
      clear G0 B3 B4 HR3 Z3
      go_wp2
      (try simp only [Exit.inBlock, Exit.then])
      refine bodyPost_ret (Sh.res_row rfl _ g2 26 _ _ rfl B4' Tryz.underlying26 rfl (sB HL.out _ _)) rfl ⟨a', c', rfl, HF.out⟩
    obtain ⟨e, he⟩ : ∃ e, b.es[k]? = some e := ⟨_, List.getElem?_eq_getElem hlt⟩
    obtain ⟨bb, oo, na, nc, ka, kc, rfl, hM⟩ := HE.out.get he
    have hmem := List.mem_of_getElem? he
    have HEW : Hid (EnW e) := HB.out.es e hmem
    have HWE : Hid (Go.Proofs.YtlefdnjokppibaaGreatDoor.ws e.v ≤ 100000) := HW.out e hmem
    have HLh : Hid (e.h.length = 32) := HEW.out.h.1
    have HT : Hid (b.es.take (k + 1) = b.es.take k ++ [e]) := by
      obtain ⟨h1, h2⟩ := List.getElem?_eq_some_iff.1 he
      show _ = _
      rw [List.take_succ_eq_append_getElem h1, h2]
    have Zwr : Below w.heap.size w wr := HZ.out.trans (HK.out.bl.mono hw02.out)
    have HR : Hid (wr.rangeAt bb (oo + k * 46) (eC e na nc ka kc)) := (hM.below Zwr).at'
    have HVL : Hid (Vl wr e.v na nc ka kc) := hM.vl.below Zwr
    clear hM hmem Zwr he
    go_wp2_with (first | (refine ld_w (by rfl) 45 (.tmp 16) rfl bb (oo + k * 46) (by first | rfl | simp [Act.eval]) (eC e na nc ka kc) _ HR.out Tryz.underlying45 rfl (sE HLh.out _ _ _ _) ?_) | (refine al_zero rfl 45 rfl (eC e0 none 0 none 0) zEn ?_))
    intro g5 w3 l5 B5 GA
    have HLe : Hid ((eC e na nc ka kc).length = 46) := eC_len HLh.out _ _ _ _
    clear c35 HR
    go_wp2_with (refine st_all rfl 45 (.tmp 5) (.tmp 17) rfl g5 45 (eC e0 none 0 none 0) (eC e na nc ka kc) rfl rfl B5 (by rw [eC_len HLh.out, eC_len zr_len]) (sE HLh.out _ _ _ _) (eC_one _ _ _ _ _) ?_)
    intro w4 B5' GB
    have Z4 : Below wr.heap.size wr w4 := below_new GA l5 GB
    have B5 : Blk w4 g5 45 ([.int .i64 e.k, .string e.t, .int .i64 e.tb, .int .i64 e.dc, .int .i64 e.vr] ++ (six e.v.1 na nc ka e.v.2.list.length kc ++ (nums .u8 e.h ++ [.bool e.g, .int .i64 e.ab, .int .i64 e.ae]))) := B5'
    have hg4 : g5 < w4.heap.size := B5'.lt
    have HR5 : Hid (w4.rangeAt g5 5 (six e.v.1 na nc ka e.v.2.list.length kc)) := by have := (enF_of HLh.out B5'.all).v; rw [Nat.zero_add] at this; exact this
    have K := clone_any (wt e.v) e.v (Nat.le_refl _) HEW.out.v HWE.out na nc ka kc w4 (HVL.out.below Z4)
    clear GA GB B5' HVL
    go_wp2_with (refine ld_w (by rfl) 41 (.tmp 18) rfl g5 5 rfl (six e.v.1 na nc ka e.v.2.list.length kc) _ HR5.out Tryz.underlying41 rfl (szV _ _ _ _ _ _) ?_)
    refine K.mono ?_
    clear K HR5
    rintro e' w5 ⟨na', nc', ka', kc', rfl, H⟩
    obtain ⟨LL, q1, q2, q3, q4⟩ := H.out
    have HQ1 : Hid (VlL w5 e.v na' nc' ka' kc' LL) := q1
    have HQ2 : Hid (∀ x ∈ LL, w4.heap.size ≤ x ∧ x < w5.heap.size) := q2
    have HZ5 : Hid (Below wr.heap.size wr w5) := Z4.trans (q4.mono Z4.size)
    have hz4 : Hid (wr.heap.size ≤ w4.heap.size) := Z4.size
    have B5 := B5.below q4 B5.lt
    clear H q1 q2 q3 q4 Z4
    go_wp2_with (refine st_row rfl 41 (.tmp 21) (.tmp 20) rfl g5 5 45 [.int .i64 e.k, .string e.t, .int .i64 e.tb, .int .i64 e.dc, .int .i64 e.vr] (six e.v.1 na nc ka e.v.2.list.length kc) (nums .u8 e.h ++ [.bool e.g, .int .i64 e.ab, .int .i64 e.ae]) (six e.v.1 na' nc' ka' e.v.2.list.length kc') rfl rfl rfl B5 rfl (szV _ _ _ _ _ _) (six_one _ _ _ _ _ _) ?_)
    intro w6 B6' G6
    have B6 : Blk w6 g5 45 (eC e na' nc' ka' kc') := B6'
    have Z6 : Hid (Below wr.heap.size wr w6) := Sh.grown_below HZ5.out G6 HZ5.out.size l5
    have VV : Hid (VNew wr w6 e.v na' nc' ka' kc') := by
      refine ⟨LL, HQ1.out.keep fun x hx => G6.block x (HQ2.out x hx).2 (fun q => ?_), fun x hx => ⟨?_, ?_⟩⟩
      · have := Option.some.inj q; have := (HQ2.out x hx).1; omega
      · have := (HQ2.out x hx).1; have := hz4.out; omega
      · have := (HQ2.out x hx).2; have := G6.size; omega
    have ROW : Hid (RowE w2.heap.size w6 u3 is) := HK.out.row.be Z6.out
    have hnv : Hid (∀ x, u3.ownBlock = some x → x < wr.heap.size) := fun x q => (World.ownsRow.lt HK.out.row.row x q).2
    have HEQ : Hid (is.map (·.e) = b.es.take k ∧ is.length = k) := ⟨HK.out.eq, HK.out.len⟩
    have hisk : is.length ≤ 100000 := by have := HK.out.len; omega
    have HZw : Hid (Below w2.heap.size w2 w6) := HK.out.bl.trans (Z6.out.mono HK.out.bl.size)
    have hzw : w2.heap.size ≤ w6.heap.size := HZw.out.size
    have hwrw2 : Hid (w2.heap.size ≤ wr.heap.size) := HK.out.bl.size
    have HLe2 : Hid ((eC e na' nc' ka' kc').length = 46) := eC_len HLh.out _ _ _ _
    clear G6 B6' B5 HQ1 HQ2 HZ5 HK
    go_wp2_with (first | (refine ld_w (by rfl) 45 (.tmp 5) rfl g5 0 rfl (eC e na' nc' ka' kc') _ B6.all Tryz.underlying45 rfl (sE HLh.out _ _ _ _) ?_) | (refine bs_en rfl (.tmp 23) rfl (eC e na' nc' ka' kc') HLe2.out rfl ?_) | (at_builtin; go_must (refine app_en rfl (.tmp 22) (.tmp 24) rfl w2.heap.size u3 is.length (is.flatMap itC) rfl (ROW.out.row.alloc _) w6.heap.size 1 1 (eC e na' nc' ka' kc') rfl (by rw [HLe2.out]) (fun j u hj => by rw [World.cell?_alloc_new]; show (eC e na' nc' ka' kc').toArray[j]? = some u; rw [List.getElem?_toArray]; exact hj) (eC_one _ _ _ _ _) (by omega) (by simp; omega) ?_)))
    intro v7 x7 R7 G7 O7
    have ZA : Below w6.heap.size w6 (w6.alloc (.cells (eC e na' nc' ka' kc').toArray 45)) := (Below.refl _ _).alloc (Nat.le_refl _) _
    have hlo : ∀ z, u3.ownBlock = some z → w2.heap.size ≤ z := fun z e => (World.ownsRow.lt ROW.out.row z e).1
    have HI : Hid (CInv w2 x7 v7 b.es (k + 1) (is ++ [⟨e, na', nc', ka', kc'⟩])) := by
      refine ⟨?_, ?_, ?_, ?_⟩
      · obtain ⟨LL, q1, q2⟩ := VV.out.be ZA
        refine (ROW.out.be ZA).snoc (i := ⟨e, na', nc', ka', kc'⟩) HEW.out q1 (fun z hz => ⟨by have := (q2 z hz).1; have := hwrw2.out; omega, (q2 z hz).2, fun e => ?_⟩) R7 G7 (O7.imp id fun e => by rw [e]; simp)
        have h1 := hnv.out z e
        have h2 := (q2 z hz).1
        omega
      · exact (HZw.out.trans (ZA.mono hzw)).grown G7 (Nat.le_trans hzw ZA.size) (fun z e => hlo z e)
      · rw [List.map_append, HEQ.out.1, HT.out]; rfl
      · rw [List.length_append, HEQ.out.2]; rfl
    clear ZA R7 G7 O7 ROW VV hlo B6
    go_wp2
    go_roundw
    case rel => exact ⟨k + 1, _, by omega, by go_num, HI.out⟩
    case measure => simp [intOf]; omega
theorem RowE.esm' {M : Nat} {w : World} {a : Option Addr} {n c : Nat} {is : List It} (h : RowE M w (.slice a n c) is) : EsM w a (is.map (·.e)) := by
  obtain ⟨a9, c9, hv9, he9⟩ := h.esm
  injection hv9 with q1 q2 q3
  rw [q1]; exact he9
theorem rclone_any (b : Bk) (hb : BkW b) (hn : b.es.length ≤ 100000) (hws : ∀ e ∈ b.es, Go.Proofs.YtlefdnjokppibaaGreatDoor.ws e.v ≤ 100000) (a : Option Addr) (c : Nat) (w : World) (hE : EsM w a b.es) :
    Calls Tryz.prog 7 #[.agg (bC b a c).toArray] w fun e w' => ∃ a' c', e = .returned (.agg (bC b a' c').toArray) ∧ Hid (EsM w' a' b.es ∧ Below w.heap.size w w') :=
  (rclone_row b hb hn hws a c w hE).mono (by
    rintro e w' ⟨a', c', rfl, H⟩
    obtain ⟨⟨is, h1, h2⟩, h3⟩ := H.out
    exact ⟨a', c', rfl, by rw [← h2]; exact h1.esm', h3⟩)
end Go.Proofs.YtlefdnjokppibaaGreatDoor.Sh
namespace Go.Proofs.YtlefdnjokppibaaGreatDoor.Sh
open Go Go.RowKit Math Mt
set_option linter.unusedVariables false
set_option linter.unusedSimpArgs false
/-- A call whose answer is known, and that keeps the class. -/
theorem q_callv {C : World → Prop} {a : Act} {o : Oper} {K : Act → Prop} (k : Nat) (xs : Array Operand) (ts : Array TypeId)
    (hop : o.op = Op.call { callee := Callee.value (Operand.func k), args := xs, argTypes := ts }) (args : Array Value) (hargs : xs.map a.eval = args)
    (hent : ∀ (args : Array Value) (w : World), (callFunc k args).run Tryz.prog w = .ok (.enter k args) w) (v : Value)
    (hc : ∀ w, C w → Calls Tryz.prog k args w fun e w' => e = .returned v ∧ C w') (hk : K (a.put o.dst v)) : o.quiet Tryz.prog a C K :=
  ⟨v, fun w hw => by
    unfold Oper.quietAt
    have : (execOp a.eval o).run Tryz.prog w = .ok (.enter k args) w := by
      simp [execOp, hop, resolve, invoke, Act.eval, hargs, hent, Deferred.ofValue]
    rw [this]
    exact ⟨rfl, hc w hw⟩, hk⟩
theorem q_ixe {C : World → Prop} {a : Act} {o : Oper} {K : Act → Prop} (x y : Operand) (ho : o.op = .indexAddr 24 x y) (b off n c k : Nat) (hx : a.eval x = .slice (some ⟨b, off, none⟩) n c) (hy : a.eval y = .int .i64 (k : Int)) (hk1 : k < n)
    (hk : K (a.put o.dst (.pointer (some ⟨b, off + k * 46, none⟩)))) : o.quiet Tryz.prog a C K :=
  ⟨_, fun w hw => by
    unfold Oper.quietAt execOp
    have h1 : ¬ ((k : Int) < 0) := by omega
    have h2 : ¬ ((n : Int) ≤ (k : Int)) := by omega
    simp only [ho, hx, hy]
    go_simp, hk⟩
set_option maxHeartbeats 1000000 in
set_option maxRecDepth 8000 in
theorem blocks_same (b : Bk) (hb : BkW b) (a : Option Addr) (c : Nat) (a2 : Option Addr) (c2 : Nat) (w : World) (hE : EsM w a b.es) (hE2 : EsM w a2 b.es) :
    Calls Tryz.prog 16 #[.agg (bC b a c).toArray, .agg (bC b a2 c2).toArray] w fun e' w' => e' = .returned (.bool true) ∧ Hid (Below w.heap.size w w') := by
  have HL : Hid (b.pv.length = 32) := hb.pv.1
  have HB : Hid (BkW b) := hb
  have HE : Hid (EsM w a b.es) := hE
  have HE2 : Hid (EsM w a2 b.es) := hE2
  have HH : Hid (∀ w, (Op.equalIn 10000 23 (.agg (nums .u8 b.pv).toArray) (.agg (nums .u8 b.pv).toArray)).run Tryz.prog w = .ok true w) := fun w => by have := eq_hash hb.pv hb.pv w; simpa using this
  have hlen := hb.len
  clear hb hE hE2
  go_enter Tryz.func16, Tryz.ntmps16
  go_wp2_with (refine al_box rfl 26 (.tmp 0) rfl (bC b a c) rfl ?_)
  intro g2 w1 l1 B2 G0
  have Z := (Below.refl w.heap.size w).grown G0 (Nat.le_refl _) (by simp)
  clear G0
  go_wp2_with (refine al_box rfl 26 (.tmp 1) rfl (bC b a2 c2) rfl ?_)
  intro g3 w2 l3 B3 G0
  have Z := Z.grown G0 Z.size (by simp)
  have B2 := B2.kept G0 (by simp)
  clear G0
  have HB2 : Hid (Blk w2 g2 26 (bC b a c)) := B2
  have HB3 : Hid (Blk w2 g3 26 (bC b a2 c2)) := B3
  have HZ : Hid (Below w.heap.size w w2) := Z
  obtain ⟨x1, x2, x3, x4, x5⟩ := bkF_of HL.out B2
  obtain ⟨y1, y2, y3, y4, y5⟩ := bkF_of HL.out B3
  have A4 : Hid (w2.rangeAt g2 3 (nums .u8 b.pv)) := x4
  have C4 : Hid (w2.rangeAt g3 3 (nums .u8 b.pv)) := y4
  have hHH := HH.out w2
  clear x4 y4 B2 B3 Z
  go_wp2_with (first
    | (refine ld_w (by rfl) 23 (.tmp 26) rfl g2 3 rfl (nums .u8 b.pv) _ A4.out Tryz.underlying23 rfl (sH HL.out) ?_)
    | (refine ld_w (by rfl) 23 (.tmp 28) rfl g3 3 rfl (nums .u8 b.pv) _ C4.out Tryz.underlying23 rfl (sH HL.out) ?_))
  clear x1 x2 x3 x5 y1 y2 y3 y5 A4 C4 hHH
  go_loopw [5] (fun i wr => ∃ k : Nat, k ≤ b.es.length ∧ i = .int .i64 (k : Int) ∧ Hid (Below w2.heap.size w2 wr)) (fun i _ => b.es.length - (intOf i).toNat)
  case atStart => exact ⟨0, by omega, rfl, Below.refl _ _⟩
  case round =>
    obtain ⟨k, hk, rfl, HK⟩ := hrel
    have c35 := (bkF_of HL.out (HB2.out.below HK.out HB2.out.lt)).es
    by_cases hlt : k < b.es.length
    case neg =>
      have HF : Hid (Below w.heap.size w wr) := HZ.out.trans (HK.out.mono HZ.out.size)
      clear HK
      go_wp2
      go_ret
      exact ⟨rfl, HF.out⟩
    obtain ⟨e, he⟩ : ∃ e, b.es[k]? = some e := ⟨_, List.getElem?_eq_getElem hlt⟩
    obtain ⟨bb, oo, na, nc, ka, kc, rfl, hM⟩ := HE.out.get he
    obtain ⟨bb2, oo2, na2, nc2, ka2, kc2, rfl, hM2⟩ := HE2.out.get he
    have HEW : Hid (EnW e) := HB.out.es e (List.mem_of_getElem? he)
    have HM : Hid (EnM w2 bb (oo + k * 46) e na nc ka kc) := hM.below HZ.out
    have HM2 : Hid (EnM w2 bb2 (oo2 + k * 46) e na2 nc2 ka2 kc2) := hM2.below HZ.out
    clear hM hM2 he
    obtain ⟨C, hC⟩ : ∃ C : World → Prop, C = fun W => Below w2.heap.size w2 W := ⟨_, rfl⟩
    have C0 : Hid (C { wr with drawn := wr.drawn + 1 }) := by rw [hC]; exact Below.drew HK.out
    have F1 : Hid (∀ W, C W → W.cell? ⟨g2, 35, none⟩ = some (.slice (some ⟨bb, oo, none⟩) b.es.length c)) := fun W h => by rw [hC] at h; exact (bkF_of HL.out (HB2.out.below h HB2.out.lt)).es
    have F2 : Hid (∀ W, C W → W.cell? ⟨g3, 35, none⟩ = some (.slice (some ⟨bb2, oo2, none⟩) b.es.length c2)) := fun W h => by rw [hC] at h; exact (bkF_of HL.out (HB3.out.below h HB3.out.lt)).es
    have F3 : Hid (∀ W, C W → W.rangeAt bb (oo + k * 46) (eC e na nc ka kc)) := fun W h => by rw [hC] at h; exact (HM.out.below h).at'
    have F4 : Hid (∀ W, C W → W.rangeAt bb2 (oo2 + k * 46) (eC e na2 nc2 ka2 kc2)) := fun W h => by rw [hC] at h; exact (HM2.out.below h).at'
    have F5 : Hid (∀ W, C W → Calls Tryz.prog 25 #[.agg (eC e na nc ka kc).toArray, .agg (eC e na2 nc2 ka2 kc2).toArray] W fun e' w' => e' = .returned (.bool true) ∧ C w') := fun W h => by
      rw [hC] at h ⊢
      refine (entries_same e HEW.out na nc ka kc na2 nc2 ka2 kc2 W (HM.out.below h).vl (HM2.out.below h).vl).mono ?_
      rintro e' w' ⟨rfl, H⟩
      exact ⟨rfl, h.trans (H.out.mono h.size)⟩
    have CO : Hid (∀ W, C W → Below w2.heap.size w2 W) := fun W h => by rw [hC] at h; exact h
    clear hC HK
    go_wp2_with fail
    have hCp : ∀ p : Prop, (∀ W, C W → p) ↔ p := fun p => ⟨fun h => h _ C0.out, fun h _ _ => h⟩
    clear c35
    refine wp_region_quiet (C := C) (by kernel_rfl) (by kernel_rfl) C0.out ?_
    change wpQuiet _ _ _ _ (_ :: _ :: _ :: _ :: _ :: _ :: _ :: _ :: _ :: _ :: _ :: _ :: []) _
    repeat (first
      | go_big_quiet_skip
      | (go_big_quiet_want
         first
         | (refine q_cell 24 (.inr (.inr (.inl rfl))) (.tmp 48) rfl g2 35 rfl _ F1.out ?_
            simp only [Act.put, List.setIfInBounds_toArray, List.set_cons_zero, List.set_cons_succ]
            go_big_quiet_on)
         | (refine q_cell 24 (.inr (.inr (.inl rfl))) (.tmp 53) rfl g3 35 rfl _ F2.out ?_
            simp only [Act.put, List.setIfInBounds_toArray, List.set_cons_zero, List.set_cons_succ]
            go_big_quiet_on)
         | (refine q_ixe (.tmp 49) (.tmp 50) rfl bb oo b.es.length c k rfl rfl hlt ?_
            simp only [Act.put, List.setIfInBounds_toArray, List.set_cons_zero, List.set_cons_succ]
            go_big_quiet_on)
         | (refine q_ixe (.tmp 54) (.tmp 55) rfl bb2 oo2 b.es.length c2 k rfl rfl hlt ?_
            simp only [Act.put, List.setIfInBounds_toArray, List.set_cons_zero, List.set_cons_succ]
            go_big_quiet_on)
         | (refine q_load 45 (.tmp 51) rfl bb (oo + k * 46) rfl (eC e na nc ka kc) _ F3.out Tryz.underlying45 rfl (sE HEW.out.h.1 _ _ _ _) ?_
            simp only [Act.put, List.setIfInBounds_toArray, List.set_cons_zero, List.set_cons_succ]
            go_big_quiet_on)
         | (refine q_load 45 (.tmp 56) rfl bb2 (oo2 + k * 46) rfl (eC e na2 nc2 ka2 kc2) _ F4.out Tryz.underlying45 rfl (sE HEW.out.h.1 _ _ _ _) ?_
            simp only [Act.put, List.setIfInBounds_toArray, List.set_cons_zero, List.set_cons_succ]
            go_big_quiet_on)
         | (refine q_callv 25 _ _ rfl #[.agg (eC e na nc ka kc).toArray, .agg (eC e na2 nc2 ka2 kc2).toArray] (by rw [List.map_toArray]; rfl) (enters Tryz.func25 (by kernel_rfl) rfl) (.bool true) F5.out ?_
            simp only [Act.put, List.setIfInBounds_toArray, List.set_cons_zero, List.set_cons_succ]
            go_big_quiet_on)
         | (go_big_quiet_op
            go_big_quiet_on)))
    refine wpQuiet_nil ?_
    intro w9 h9
    have HN : Hid (Below w2.heap.size w2 w9) := CO.out _ h9
    clear h9 hCp C0 F1 F2 F3 F4 F5 CO
    go_wp2
    go_roundw
    case rel => exact ⟨k + 1, by omega, by go_num, HN.out⟩
    case measure => simp [intOf]; omega
end Go.Proofs.YtlefdnjokppibaaGreatDoor.Sh
namespace Go.Proofs.YtlefdnjokppibaaGreatDoor.Sh
open Go Go.RowKit Math Mt
set_option linter.unusedVariables false
set_option linter.unusedSimpArgs false
theorem app_es {ops : Array Oper} {rest : List Oper} {o : Oper} {a : Act} {Q : Exit → Act → World → Prop} {w : World} (hgd : o.guard = none) (x : Operand)
    (ho : o.op = .call { callee := .builtin .append, args := #[.const (.slice none 0 0), x], argTypes := #[24, 24] })
    (base : Nat) (ax : Option Addr) (m c : Nat) (news : List Value) (hx : a.eval x = .slice ax m c) (hl : news.length = m * 46) (hc : ∀ ad, ax = some ad → ∀ j u, news[j]? = some u → w.cell? (ad.add j) = some u) (hnil : ax = none → m = 0) (h1 : ∀ u ∈ news, u.oneCell' = true)
    (hb : m ≤ 100000) (hbase : base ≤ w.heap.size)
    (h : ∀ v' w', w'.ownsRow base 45 46 v' m news → w.grownBy w' none → (v'.ownBlock = none ∨ v'.ownBlock = some w.heap.size) → wpList Tryz.prog ops Q rest (a.put o.dst v') w') : wpList Tryz.prog ops Q (o :: rest) a w := by
  have hI := Tryz.infoEn
  cases hq : Tryz.prog.info? 45 with
  | none => rw [hq] at hI; cases hI
  | some i =>
    rw [hq] at hI
    simp only [Option.map_some, Option.some.injEq, Prod.mk.injEq] at hI
    obtain ⟨h0, hz1, hz2⟩ := hI
    obtain ⟨z, hz, hzs⟩ : ∃ z, i.zero = some z ∧ z.cells.size = 46 := by
      cases hzz : i.zero with
      | none => rw [hzz] at h0; cases h0
      | some z => rw [hzz] at h0; exact ⟨z, rfl, by simpa using h0⟩
    have hby : i.bytes ≤ 1000 := of_decide_eq_true hz2
    cases ax with
    | none =>
      obtain rfl := hnil rfl
      have hl : news = [] := List.eq_nil_of_length_eq_zero (by simpa using hl)
      subst hl
      refine wpList_plain hgd fun K hK => ?_
      have hr : (Builtin.append_ #[24, 24] o.type #[.slice none 0 0, .slice none 0 c]).run Tryz.prog w = .ok (.slice none 0 0) w := by
        simp [Builtin.append_, run_underlying Tryz.underlying24, Go.sizeOf, typeInfo, hq, Builtin.lenOf, Builtin.firstCells]
      have hs : a.eval (.const (.slice none 0 0)) = .slice none 0 0 := rfl
      unfold Oper.wp execOp
      simp only [ho, resolve, invoke, builtin, Sem.run_bind, Sem.run_pure, Result.andThen_ok, List.map_toArray, List.map_cons, List.map_nil, hs, hx, hr]
      exact hK _ _ (h _ w (World.ownsRow_nil _ _ _ _) (World.grownBy.refl _ _) (.inl rfl))
    | some ad =>
      refine wpList_append_own_at _ hgd (.const (.slice none 0 0)) x 24 ho base 45 i z 46 i.bytes Tryz.underlying24 hq hz hz1 rfl hzs (by decide) (.slice none 0 0) 0 [] rfl (World.ownsRow_nil _ _ _ _) ad m c news hx hl (hc ad rfl) h1 (by unfold maxLen; omega) (by
        have : (0 + m) * i.bytes ≤ 100000 * 1000 := Nat.mul_le_mul (by omega) hby
        omega) hbase ?_
      intro v' w' h1 h2 _ h4
      exact h v' w' (by simpa using h1) h2 h4
theorem oper_row' {o : Oper} {a : Act} {w : World} {K : Act → World → Prop} {Q : Exit → Act → World → Prop} (ty : TypeId) (x y : Operand) (ho : o.op = .store ty x y) (b off : Nat) (t : TypeId) (p m q m' : List Value)
    (hx : a.eval x = .pointer (some ⟨b, off, none⟩)) (hy : a.eval y = .agg m'.toArray) (hp : p.length = off) (hb : Blk w b t (p ++ (m ++ q))) (hl : m'.length = m.length)
    (hi : (Tryz.prog.info? ty).map (·.size) = some m'.length) (h1 : ∀ v ∈ m', v.oneCell' = true)
    (h : ∀ w', Blk w' b t (p ++ (m' ++ q)) → w.grownBy w' (some b) → K (a.put o.dst undef) w') : Oper.wp Tryz.prog o a w K Q := by
  subst hp
  refine wp_store_mid ty x y ho b p.length m'.toArray hx hy (hb.there _ _ (by simp; omega)) (by simpa using hi) (all_oneCell_toArray h1) ?_
  exact h _ (by simpa using Blk.setCells q m' m p w hl hb) (by simpa using grown_setCells b m' p.length w)
theorem row_en {w : World} {base n : Nat} {v : Value} {ss : List Value} (h : w.ownsRow base 45 46 v n ss) : ∃ a c, v = .slice a n c ∧ n ≤ c ∧ (n = 0 ∧ a = none ∧ c = 0 ∨ ∃ g sp, a = some ⟨g, 0, none⟩ ∧ Blk w g 45 (ss ++ sp) ∧ base ≤ g ∧ (ss ++ sp).length = c * 46 ∧ c ≤ maxLen) := by
  rcases h with ⟨h1, ⟨rfl, h0⟩ | ⟨g, cap, cur, rfl, hg, hh, hle, hm, h5, h6⟩⟩
  · exact ⟨none, 0, by rw [h0], by omega, .inl ⟨h0, rfl, rfl⟩⟩
  · refine ⟨_, cap, rfl, hle, .inr ⟨g, cur.toList.drop (n * 46), rfl, ?_, hg, ?_, hm⟩⟩
    · unfold Blk
      rw [hh, ← h6, List.take_append_drop]
    · rw [← h6, List.take_append_drop, Array.length_toList, h5]
theorem en_row {w : World} {base n g c : Nat} {ss sp : List Value} (hb : Blk w g 45 (ss ++ sp)) (hg : base ≤ g) (hn : n ≤ c) (hl : (ss ++ sp).length = c * 46) (hm : c ≤ maxLen) (hs : ss.length = n * 46) : w.ownsRow base 45 46 (.slice (some ⟨g, 0, none⟩) n c) n ss :=
  ⟨hs, .inr ⟨g, c, (ss ++ sp).toArray, rfl, hg, hb, hn, hm, by simpa using hl, by rw [List.toList_toArray, ← hs, List.take_left']; rfl⟩⟩
theorem es_items {w : World} {b : Nat} : ∀ (es : List En) (o : Nat), (∀ i e, es[i]? = some e → ∃ na nc ka kc, EnM w b (o + i * 46) e na nc ka kc) → (∀ e ∈ es, EnW e) → ∃ js : List It, js.map (·.e) = es ∧ (∀ j ∈ js, Vl w j.e.v j.na j.nc j.ka j.kc) ∧ w.rangeAt b o (js.flatMap itC)
  | [], o, _, _ => ⟨[], rfl, by simp, fun j u hj => by simp at hj⟩
  | e :: es, o, h, hw => by
    obtain ⟨na, nc, ka, kc, h1⟩ := h 0 e rfl
    obtain ⟨js, q1, q2, q3⟩ := es_items es (o + 46) (fun i e he => by
      have := h (i + 1) e (by simpa using he)
      rwa [show o + (i + 1) * 46 = o + 46 + i * 46 by omega] at this) (fun x hx => hw x (List.mem_cons_of_mem _ hx))
    refine ⟨⟨e, na, nc, ka, kc⟩ :: js, by rw [List.map_cons, q1], fun j hj => ?_, fun j u hj => ?_⟩
    · rcases List.mem_cons.1 hj with rfl | hj
      · exact h1.vl
      · exact q2 j hj
    · have hle : (eC e na nc ka kc).length = 46 := eC_len (hw e (by simp)).h.1 _ _ _ _
      rw [List.flatMap_cons] at hj
      by_cases hl : j < 46
      · rw [List.getElem?_append_left (by show j < (eC e na nc ka kc).length; omega)] at hj
        have := h1.at' j u hj
        simpa using this
      · rw [List.getElem?_append_right (by show (eC e na nc ka kc).length ≤ j; omega)] at hj
        have := q3 (j - 46) u (by rw [← hj]; congr 1; show j - 46 = j - (eC e na nc ka kc).length; omega)
        rwa [show o + 46 + (j - 46) = o + j by omega] at this
theorem its_one : ∀ (is : List It), ∀ u ∈ is.flatMap itC, u.oneCell' = true := fun is u hu => by
  obtain ⟨i, _, h⟩ := List.mem_flatMap.1 hu
  exact eC_one _ _ _ _ _ u h
theorem its_len : ∀ (is : List It), (∀ i ∈ is, EnW i.e) → (is.flatMap itC).length = is.length * 46
  | [], _ => rfl
  | x :: r, h => by
    have h1 : (itC x).length = 46 := eC_len (h x (by simp)).h.1 _ _ _ _
    rw [List.flatMap_cons, List.length_append, h1, its_len r (fun i hi => h i (List.mem_cons_of_mem _ hi)), List.length_cons]
    omega
/-- A row whose entry i is put in another's place. -/
theorem RowE.put {M : Nat} {w w' : World} {g n c : Nat} {is js : List It} {i i' : It} {sp : List Value} (h : RowE M w (.slice (some ⟨g, 0, none⟩) n c) (is ++ i :: js)) (hw : EnW i'.e)
    (hv : ∃ L, VlL w i'.e.v i'.na i'.nc i'.ka i'.kc L ∧ ∀ x ∈ L, M ≤ x ∧ x < w.heap.size ∧ g ≠ x) (hb : Blk w' g 45 (is.flatMap itC ++ (itC i' ++ (js.flatMap itC ++ sp)))) (hg : w.grownBy w' (some g)) (hc : (is.flatMap itC ++ (itC i' ++ (js.flatMap itC ++ sp))).length = c * 46) (hm : c ≤ maxLen) (hn : n ≤ c) :
    RowE M w' (.slice (some ⟨g, 0, none⟩) n c) (is ++ i' :: js) := by
  have key : ∀ (j : It), (∃ L, VlL w j.e.v j.na j.nc j.ka j.kc L ∧ ∀ x ∈ L, M ≤ x ∧ x < w.heap.size ∧ g ≠ x) → ∃ L, VlL w' j.e.v j.na j.nc j.ka j.kc L ∧ ∀ x ∈ L, M ≤ x ∧ x < w'.heap.size ∧ (Value.slice (some ⟨g, 0, none⟩) n c).ownBlock ≠ some x := by
    rintro j ⟨L, h1, h2⟩
    exact ⟨L, h1.keep fun x hx => hg.block x (h2 x hx).2.1 (fun e => (h2 x hx).2.2 (Option.some.inj e).symm), fun x hx => ⟨(h2 x hx).1, Nat.lt_of_lt_of_le (h2 x hx).2.1 hg.size, fun e => (h2 x hx).2.2 (Option.some.inj e)⟩⟩
  have old : ∀ j ∈ is ++ i :: js, ∃ L, VlL w j.e.v j.na j.nc j.ka j.kc L ∧ ∀ x ∈ L, M ≤ x ∧ x < w.heap.size ∧ g ≠ x := fun j hj => by
    obtain ⟨L, h1, h2⟩ := h.vl j hj
    exact ⟨L, h1, fun x hx => ⟨(h2 x hx).1, (h2 x hx).2.1, fun e => (h2 x hx).2.2 (by rw [← e]; rfl)⟩⟩
  have ew : ∀ j ∈ is ++ i' :: js, EnW j.e := fun j hj => by
    rcases List.mem_append.1 hj with hj | hj
    · exact h.ew j (by simp [hj])
    · rcases List.mem_cons.1 hj with rfl | hj
      · exact hw
      · exact h.ew j (by simp [hj])
  have hMg : M ≤ g := (World.ownsRow.lt h.row g rfl).1
  have hln : (is ++ i' :: js).length = n := by
    rcases h.row with ⟨_, ⟨e, _⟩ | ⟨g', cap, cur, e, _⟩⟩
    · cases e
    · injection e with _ e2 _
      simp only [List.length_append, List.length_cons] at e2 ⊢
      exact e2.symm
  refine ⟨?_, fun j hj => key j ?_, ew⟩
  · have e1 : (is ++ i' :: js).flatMap itC ++ sp = is.flatMap itC ++ (itC i' ++ (js.flatMap itC ++ sp)) := by simp
    have := en_row (base := M) (n := n) (ss := (is ++ i' :: js).flatMap itC) (sp := sp) (by rw [e1]; exact hb) hMg hn (by rw [e1]; exact hc) hm (by rw [its_len _ ew, hln])
    rw [hln]
    exact this
  · rcases List.mem_append.1 hj with hj | hj
    · exact old j (by simp [hj])
    · rcases List.mem_cons.1 hj with rfl | hj
      · exact hv
      · exact old j (by simp [hj])
end Go.Proofs.YtlefdnjokppibaaGreatDoor.Sh
