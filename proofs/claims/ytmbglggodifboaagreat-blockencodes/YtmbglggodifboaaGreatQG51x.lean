/-
  small: one with a table. · known: there and back. · The law BlockEncodes, walked. · A block that comes in.
-/
import Derived.Test.YtmbglggodifboaaGreatQG43x
import Derived.Test.YtmbglggodifboaaGreatQG50x
import Derived.Test.YtmbglggodifboaaGreatQG15x
import Derived.Laws.IdiomArrays
import Derived.OpenShut
import Derived.ChangeSame
namespace Go.Proofs.YtmbglggodifboaaGreat.Sh
open Go Go.RowKit Math Mt
set_option linter.unusedVariables false
set_option linter.unusedSimpArgs false
def smE : En := ⟨5, ⟨#[116]⟩, 1, 0, 0, nv, zr, false, 0, 0⟩
def smB : Bk := ⟨0, 0, 0, zr, [smE]⟩
theorem smE_w : EnW smE := ⟨⟨by decide, by decide⟩, by decide, ⟨by decide, by decide⟩, ⟨by decide, by decide⟩, ⟨by decide, by decide⟩, wf_nv, h32_zr, ⟨by decide, by decide⟩, ⟨by decide, by decide⟩⟩
theorem smB_w : BkW smB := ⟨⟨by decide, by decide⟩, ⟨by decide, by decide⟩, ⟨by decide, by decide⟩, h32_zr, fun e he => by rw [List.mem_singleton.1 he]; exact smE_w, by decide⟩
theorem smB_lk : ∀ e ∈ smB.es, Lk e.v := fun e he => by rw [List.mem_singleton.1 he]; exact lk_nv
theorem bd_sm (a : Act) : Tryz.prog.built 52 ((#[(0, .const (.int .i64 5)), (2, .const (.int .i64 1)), (1, .const (.string ⟨#[116]⟩))] : Array (Nat × Operand)).map fun p => (p.1, a.eval p.2)).toList = some (eC smE none 0 none 0).toArray := by kernel_rfl
theorem bd_sb (a : Act) (g : Nat) (hx : a.eval (.tmp 2) = .slice (some ⟨g, 0, none⟩) 1 1) : Tryz.prog.built 26 ((#[(4, .tmp 2)] : Array (Nat × Operand)).map fun p => (p.1, a.eval p.2)).toList = some (bC smB (some ⟨g, 0, none⟩) 1).toArray := by
  simp only [List.map_toArray, List.map_cons, List.map_nil, hx]
  kernel_rfl
set_option maxHeartbeats 400000 in
set_option maxRecDepth 8000 in
theorem small_any (w : World) :
    Calls Tryz.prog 23 #[] w fun e' w' => ∃ g, e' = .returned (.agg (bC smB (some ⟨g, 0, none⟩) 1).toArray) ∧ Hid (EsM w' (some ⟨g, 0, none⟩) smB.es ∧ Below w.heap.size w w') := by
  go_enter Tryz.func23, Tryz.ntmps23
  go_wp2_with (refine al_zero rfl 26 rfl (bC noB none 0) zBl ?_)
  intro g0 w1 l0 B0 G0
  have Z := (Below.refl w.heap.size w).grown G0 (Nat.le_refl _) (by simp)
  clear G0
  have B0' := B0.alloc (.cells (eC smE none 0 none 0).toArray 52)
  have HZ : Hid (Below w.heap.size w (w1.alloc (.cells (eC smE none 0 none 0).toArray 52))) := Z.alloc Z.size _
  have HR : Hid ((w1.alloc (.cells (eC smE none 0 none 0).toArray 52)).rangeAt w1.heap.size 0 (eC smE none 0 none 0)) := fun j u hj => by
    rw [Nat.zero_add, World.cell?_alloc_new]
    show (eC smE none 0 none 0).toArray[j]? = some u
    rw [List.getElem?_toArray]
    exact hj
  have hb0 := B0.lt
  clear Z B0
  go_wp2_with (first
    | (refine bd_w (by rfl) 52 _ rfl (eC smE none 0 none 0) (bd_sm _) ?_)
    | (refine bs_en rfl (.tmp 1) rfl (eC smE none 0 none 0) rfl rfl ?_)
    | (refine bd_w (by rfl) 26 _ rfl (bC smB (some ⟨w1.heap.size, 0, none⟩) 1) (bd_sb _ _ rfl) ?_)
    | (refine st_all rfl 26 (.tmp 0) (.tmp 3) rfl g0 26 (bC noB none 0) (bC smB (some ⟨w1.heap.size, 0, none⟩) 1) rfl rfl B0' rfl (sB zr_len _ _) (bC_one _ _ _) ?_))
  intro wz BZ G0
  have HF : Hid (EsM wz (some ⟨w1.heap.size, 0, none⟩) smB.es ∧ Below w.heap.size w wz) := by
    refine ⟨.inr ⟨w1.heap.size, 0, rfl, fun i e he => ?_⟩, Sh.grown_below HZ.out G0 HZ.out.size l0⟩
    obtain ⟨hi, he'⟩ := List.getElem?_eq_some_iff.1 he
    have hi0 : i = 0 := by have : i < 1 := hi; omega
    subst hi0
    obtain rfl : smE = e := he'
    refine ⟨none, 0, none, 0, fun j u hj => ?_, (vl_lf wz 0 0 0 em).vl⟩
    exact G0.cell (HR.out j u hj) (by intro e; have := Option.some.inj e; simp at this; omega)
  clear G0 B0' HR HZ
  go_wp2
  (try simp only [Exit.inBlock, Exit.then])
  refine bodyPost_ret (Sh.res_row rfl _ g0 26 _ _ rfl BZ Tryz.underlying26 rfl (sB zr_len _ _)) rfl ⟨w1.heap.size, rfl, HF.out⟩
end Go.Proofs.YtmbglggodifboaaGreat.Sh
namespace Go.Proofs.YtmbglggodifboaaGreat.Sh
open Go Go.RowKit Math Mt
set_option linter.unusedVariables false
set_option linter.unusedSimpArgs false
theorem sm_chk : chkB smB = 0 := by kernel_rfl
theorem no_chk : chkB noB = 1 := by kernel_rfl
theorem sm_enc : encL smB true = blkB smB true := by unfold encL; rw [if_pos sm_chk]
theorem sm_len : (blkB smB true).length ≤ 65536 := of_decide_eq_true (by kernel_rfl)
theorem sm_oct : Oct (blkB smB true) := blk_oct smB_w (chk_zero sm_chk).2.1 true
theorem sm_dec : decB (blkB smB true) = 0 ∧ decK (blkB smB true) = smB := dec_bk smB_w sm_chk
set_option maxHeartbeats 1000000 in
set_option maxRecDepth 8000 in
theorem bknown_any (w : World) : Calls Tryz.prog 11 #[] w fun e' w' => e' = .returned (.bool true) ∧ Hid (Below w.heap.size w w') := by
  go_enter Tryz.func11, Tryz.ntmps11
  have K := small_any w
  go_wp2_with fail
  refine K.mono ?_
  clear K
  rintro e w1 ⟨g, rfl, H⟩
  have Z := H.out.2
  have K := enc_any smB smB_w smB_lk (some ⟨g, 0, none⟩) 1 true w1 H.out.1
  rw [sm_chk, sm_enc] at K
  clear H
  obtain ⟨L, hL⟩ : ∃ L, Hid (blkB smB true = L) := ⟨_, rfl⟩
  rw [hL.out] at K
  go_wp2_with fail
  refine K.mono ?_
  clear K
  rintro e w2 ⟨v, rfl, H⟩
  have Z := Z.trans (H.out.2.mono Z.size)
  have hO := H.out.1
  clear H
  obtain ⟨ax, cx, rfl, hB, hnil, hc, hcm⟩ := hO.byt
  unfold maxLen at hcm
  have HO : Hid (Own w2 w1.heap.size (.slice ax L.length cx) L) := hO
  have K := bdec_any w2 ax cx L hB hnil (by omega) (by omega) (by rw [← hL.out]; exact sm_oct) (by rw [← hL.out]; have := sm_len; omega) (bsf_short (by rw [← hL.out]; exact sm_oct) (by rw [← hL.out]; exact sm_len))
  have e1 : decB L = 0 := by rw [← hL.out]; exact sm_dec.1
  have e2 : decK L = smB := by rw [← hL.out]; exact sm_dec.2
  rw [e1, e2] at K
  clear hB hnil hc hO HO e1
  go_wp2_with fail
  refine K.mono ?_
  clear K
  rintro e w3 ⟨a, c, rfl, H⟩
  have Z := Z.trans (H.out.bl.mono Z.size)
  have HE : Hid (EsM w3 a smB.es) := by have h := H.out.esm; rw [e2] at h; exact h
  clear H e2 hL
  go_wp2_with (refine al_zero rfl 26 rfl (bC noB none 0) zBl ?_)
  intro g3 w4 l3 B3 G0
  have Z6 := (Below.refl w3.heap.size w3).grown G0 (Nat.le_refl _) (by simp)
  clear G0
  go_wp2_with (refine st_all rfl 26 (.tmp 3) (.tmp 13) rfl g3 26 (bC noB none 0) (bC smB a c) rfl rfl B3 (by rw [bC_len (b := smB) zr_len, bC_len zr_len]) (sB (b := smB) zr_len _ _) (bC_one _ _ _) ?_)
  intro w5 B3' G0
  have Z7 := Sh.grown_below Z6 G0 Z6.size l3
  have HE : Hid (EsM w5 a smB.es) := HE.out.below Z7
  have HZ : Hid (Below w.heap.size w w5) := Z.trans (Z7.mono Z.size)
  have HB : Hid (Blk w5 g3 26 (bC smB a c)) := B3'
  clear B3' G0 Z6 Z7 Z B3
  obtain ⟨C, hC⟩ : ∃ C : World → Prop, C = fun W => Below w5.heap.size w5 W := ⟨_, rfl⟩
  have C0 : Hid (C { w5 with drawn := w5.drawn + 1 }) := by rw [hC]; exact Below.drew (Below.refl _ _)
  have CO : Hid (∀ W, C W → Below w5.heap.size w5 W) := fun W h => by rw [hC] at h; exact h
  have CB : Hid (∀ W W', C W → Below W.heap.size W W' → C W') := fun W W' h h2 => by rw [hC] at h ⊢; exact h.trans (h2.mono h.size)
  have FB : Hid (∀ W, C W → W.rangeAt g3 0 (bC smB a c)) := fun W h => (HB.out.below (CO.out W h) HB.out.lt).all
  have FE : Hid (∀ W, C W → EsM W a smB.es) := fun W h => HE.out.below (CO.out W h)
  clear hC
  go_wp2_with fail
  refine region_calm C 16 (by kernel_rfl) ?_
  have hCp : ∀ p : Prop, (∀ W, C W → p) ↔ p := fun p => ⟨fun h => h _ C0.out, fun h _ _ => h⟩
  generalize ({ w5 with drawn := w5.drawn + 1 } : World) = y0 at *
  refine seg 10 [0, 1, 2, 3, 4, 5, 6] rfl (by kernel_rfl) whole_blind (C0.out) (by kernel_rfl) ?_
  change wpQuiet _ _ _ _ (_ :: _ :: _ :: _ :: _ :: _ :: _ :: []) _
  repeat (first
    | go_big_quiet_skip
    | (go_big_quiet_want
       first
       | (go_big_quiet_op
          go_big_quiet_on)))
  refine wpQuiet_nil ?_
  refine seg 9 [7] rfl (by kernel_rfl) whole_blind (C0.out) (by kernel_rfl) ?_
  change wpQuiet _ _ _ _ (_ :: []) _
  repeat (first
    | go_big_quiet_skip
    | (go_big_quiet_want
       first
       | (refine q_load 26 (.tmp 3) rfl g3 0 rfl (bC smB a c) _ FB.out Tryz.underlying26 rfl (sB (b := smB) zr_len _ _) ?_
          simp only [Act.put, List.setIfInBounds_toArray, List.set_cons_zero, List.set_cons_succ]
          go_big_quiet_on)
       | (go_big_quiet_op
          go_big_quiet_on)))
  refine wpQuiet_nil ?_
  refine lone_do (i := 8) 8 rfl (by kernel_rfl) rfl (by rfl) ?_
  intro K hK
  refine oper_call 23 _ _ rfl #[] (by rw [List.map_toArray]; rfl) (enters Tryz.func23 (by kernel_rfl) rfl) (fun v w' => ∃ g, v = .agg (bC smB (some ⟨g, 0, none⟩) 1).toArray ∧ Hid (EsM w' (some ⟨g, 0, none⟩) smB.es ∧ Below y0.heap.size y0 w')) ((small_any y0).mono (by rintro e w' ⟨g, rfl, h⟩; exact ⟨_, rfl, g, rfl, h⟩)) ?_
  rintro v y1 ⟨gs, rfl, HS⟩
  have C1 : Hid (C y1) := CB.out y0 y1 C0.out HS.out.2
  refine hK _ _ (C1.out) ?_
  clear hK K
  simp only [Act.put, List.setIfInBounds_toArray, List.set_cons_zero, List.set_cons_succ]
  refine lone_do (i := 9) 7 rfl (by kernel_rfl) rfl (by rfl) ?_
  intro K hK
  refine oper_call 10 _ _ rfl #[.agg (bC smB a c).toArray, .agg (bC smB (some ⟨gs, 0, none⟩) 1).toArray] (by rw [List.map_toArray]; rfl) (enters Tryz.func10 (by kernel_rfl) rfl) (fun v w' => v = .bool true ∧ Hid (Below y1.heap.size y1 w')) ((blocks_same smB smB_w a c (some ⟨gs, 0, none⟩) 1 y1 (FE.out _ C1.out) HS.out.1).mono (by rintro e w' ⟨rfl, h⟩; exact ⟨_, rfl, rfl, h⟩)) ?_
  rintro v y2 ⟨rfl, H2⟩
  have C2 : Hid (C y2) := CB.out y1 y2 C1.out H2.out
  clear hCp
  have hCp : ∀ p : Prop, (∀ W, C W → p) ↔ p := fun p => ⟨fun h => h _ C2.out, fun h _ _ => h⟩
  refine hK _ _ (C2.out) ?_
  clear hK K
  simp only [Act.put, List.setIfInBounds_toArray, List.set_cons_zero, List.set_cons_succ]
  refine seg 4 [10, 11, 12] rfl (by kernel_rfl) whole_blind (C2.out) (by kernel_rfl) ?_
  change wpQuiet _ _ _ _ (_ :: _ :: _ :: []) _
  repeat (first
    | go_big_quiet_skip
    | (go_big_quiet_want
       first
       | (refine q_bd 26 #[] rfl (bC noB none 0) (bd_blk _) ?_
          simp only [Act.put, List.setIfInBounds_toArray, List.set_cons_zero, List.set_cons_succ]
          go_big_quiet_on)
       | (go_big_quiet_op
          go_big_quiet_on)))
  refine wpQuiet_nil ?_
  refine lone_do (i := 13) 3 rfl (by kernel_rfl) rfl (by rfl) ?_
  intro K hK
  refine oper_call 24 _ _ rfl #[.agg (bC noB none 0).toArray] (by rw [List.map_toArray]; rfl) (enters Tryz.func24 (by kernel_rfl) rfl) (fun v w' => v = .int .i64 1 ∧ Below y2.heap.size y2 w') ((check_any noB w_noB (by simp [noB]) none 0 y2 (.inl rfl)).mono (by rintro e w' ⟨rfl, h⟩; rw [no_chk]; exact ⟨_, rfl, rfl, h⟩)) ?_
  rintro v y3 ⟨rfl, H3⟩
  have C3 : Hid (C y3) := CB.out y2 y3 C2.out H3
  refine hK _ _ (C3.out) ?_
  clear hK K
  simp only [Act.put, List.setIfInBounds_toArray, List.set_cons_zero, List.set_cons_succ]
  refine seg 1 [14, 15] rfl (by kernel_rfl) whole_blind (C3.out) (by kernel_rfl) ?_
  change wpQuiet _ _ _ _ (_ :: _ :: []) _
  repeat (first
    | go_big_quiet_skip
    | (go_big_quiet_want
       first
       | (go_big_quiet_op
          go_big_quiet_on)))
  refine wpQuiet_nil ?_
  refine lone_calm (i := 16) 0 rfl (by kernel_rfl) rfl rfl (C3.out) ?_
  repeat (first
    | go_big_quiet_skip
    | (go_big_quiet_want
       first
       | (go_big_quiet_op
          go_big_quiet_on)))
  refine wpQuiet_nil ?_
  refine anyC_done (by kernel_rfl) ⟨rfl, ?_⟩
  have HF : Hid (Below w.heap.size w y3) := HZ.out.trans ((CO.out _ C3.out).mono HZ.out.size)
  clear C0 C1 C2 C3 CO CB FB FE hCp
  go_wp2
  go_ret
  exact ⟨rfl, HF.out⟩
end Go.Proofs.YtmbglggodifboaaGreat.Sh
namespace Go.Proofs.YtmbglggodifboaaGreat.Sh
open Go Go.RowKit Math Mt
set_option linter.unusedVariables false
set_option linter.unusedSimpArgs false
theorem light_lk2 {b : Bk} (hb : BkW b) (h : Light b) : ∀ e ∈ b.es, Lk e.v := fun e he => lk_ws (hb.es e he).v (by have := (h.all e he).1; omega)
theorem encL_of {b : Bk} (hb : BkW b) (data : Bool) : Oct (encL b data) ∧ (encL b data).length ≤ 14000100 := by
  unfold encL
  by_cases h : chkB b = 0
  · rw [if_pos h]
    refine ⟨blk_oct hb (chk_zero h).2.1 data, ?_⟩
    have h1 := itms_len data hb.es (fst_all (chk_zero h).2.1)
    have h2 := hed_len hb
    have h0 := (chk_zero h).1.2.2.2.2
    have h3 := uv_ten b.es.length (by omega)
    unfold blkB
    simp only [List.length_append]
    omega
  · rw [if_neg h]
    exact ⟨(fun x hx => by cases hx), by simp⟩
theorem tail_le (k : Int) (dl : List Nat) (data : Bool) : (tail k dl data).length ≤ (tail k dl true).length := by
  cases data with
  | true => exact Nat.le_refl _
  | false =>
    unfold tail
    by_cases h : k = 2
    · rw [if_pos h, if_pos h, if_pos (.inl rfl)]
      split
      · exact Nat.le_refl _
      · simp only [List.length_append, List.length_singleton]; omega
    · rw [if_neg h, if_neg h]; exact Nat.le_refl _
theorem itms_le (data : Bool) : ∀ l : List En, (l.flatMap (itmB data)).length ≤ (l.flatMap (itmB true)).length
  | [] => by simp
  | e :: r => by
    have h1 := itms_le data r
    have h2 := tail_le e.k (datL e) data
    simp only [List.flatMap_cons, List.length_append]
    unfold itmB at *
    simp only [List.length_append]
    omega
theorem encL_len {b : Bk} (hb : BkW b) (data : Bool) : (encL b data).length ≤ 262144 := by
  unfold encL
  by_cases h : chkB b = 0
  · rw [if_pos h]
    have h1 := (chk_zero h).2.2
    have h2 := itms_le data b.es
    unfold blkB at *
    simp only [List.length_append] at *
    omega
  · rw [if_neg h]; simp
set_option maxRecDepth 8000 in
set_option maxHeartbeats 1000000 in
theorem blenc_walk (b : Bk) (hb : BkW b) (a : Option Addr) (c : Nat) (data : Bool) (W : World) (hE : EsM W a b.es) :
    Calls Tryz.prog 3 #[.agg (bC b a c).toArray, .bool data] W fun e w' => e = .returned (.bool true) ∧ Below W.heap.size W w' := by
  have HL : Hid (b.pv.length = 32) := hb.pv.1
  have HB : Hid (BkW b) := hb
  have HE : Hid (EsM W a b.es) := hE
  have HO1 : Hid (Oct (encL b data)) := (encL_of hb data).1
  have HO2 : Hid ((encL b data).length ≤ 262144) := encL_len hb data
  clear hb hE
  go_enter Tryz.func3, Tryz.ntmps3
  go_wp2_with (refine al_box rfl 26 (.tmp 0) rfl (bC b a c) rfl ?_)
  intro g2 w1 l1 B2 G0
  have Z1 := (Below.refl W.heap.size W).grown G0 (Nat.le_refl _) (by simp)
  clear G0
  have KH := heavy_any b HB.out a c w1 (HE.out.below Z1)
  go_wp2_with (refine ld_w (by rfl) 26 (.tmp 2) rfl g2 0 rfl (bC b a c) _ B2.all Tryz.underlying26 rfl (sB HL.out _ _) ?_)
  refine KH.mono ?_
  clear KH
  rintro e w2 ⟨t, rfl, H⟩
  have HZ2 : Hid (Below W.heap.size W w2) := Z1.trans (H.out.1.mono Z1.size)
  have HB2 : Hid (Blk w2 g2 26 (bC b a c)) := B2.below H.out.1 B2.lt
  have HLi : Hid (t = false → Light b) := H.out.2
  clear H Z1 B2
  cases t with
  | true =>
    go_wp2
    go_ret
    exact ⟨rfl, HZ2.out⟩
  | false =>
  have HLg : Hid (Light b) := HLi.out rfl
  have HWS : Hid (∀ e ∈ b.es, Go.Proofs.YtmbglggodifboaaGreat.ws e.v ≤ 100000) := fun e he => by have := (HLg.out.all e he).1; omega
  have HLk : Hid (∀ e ∈ b.es, Lk e.v) := light_lk2 HB.out HLg.out
  clear HLi
  have KC := rclone_any b HB.out (by have := HLg.out.len; omega) HWS.out a c w2 (HE.out.below HZ2.out)
  go_wp2_with (refine ld_w (by rfl) 26 (.tmp 2) rfl g2 0 rfl (bC b a c) _ HB2.out.all Tryz.underlying26 rfl (sB HL.out _ _) ?_)
  refine KC.mono ?_
  clear KC
  rintro e w3 ⟨a3, c3, rfl, H⟩
  have Z3 : Hid (Below W.heap.size W w3) := HZ2.out.trans (H.out.2.mono HZ2.out.size)
  have B3 : Hid (Blk w3 g2 26 (bC b a c)) := HB2.out.below H.out.2 HB2.out.lt
  have HE3 : Hid (EsM w3 a3 b.es) := H.out.1
  clear H HZ2 HB2
  go_wp2_with (refine al_zero rfl 26 rfl (bC noB none 0) zBl ?_)
  intro g5 w4 l5 B5 GA
  go_wp2_with (refine st_all rfl 26 (.tmp 5) (.tmp 13) rfl g5 26 (bC noB none 0) (bC b a3 c3) rfl rfl B5 (by rw [bC_len HL.out, bC_len zr_len]) (sB HL.out _ _) (bC_one _ _ _) ?_)
  intro w5 B5' GB
  have G5 : Below w3.heap.size w3 w5 := below_new GA l5 GB
  have HZ5 : Hid (Below W.heap.size W w5) := Z3.out.trans (G5.mono Z3.out.size)
  have HB2 : Hid (Blk w5 g2 26 (bC b a c)) := B3.out.below G5 B3.out.lt
  have HB5 : Hid (Blk w5 g5 26 (bC b a3 c3)) := B5'
  have HE5 : Hid (EsM w5 a3 b.es) := HE3.out.below G5
  clear GA GB B5 B5' G5 Z3 B3 HE3
  have KE := enc_any b HB.out HLk.out a3 c3 data w5 HE5.out
  go_wp2_with (refine ld_w (by rfl) 26 (.tmp 5) rfl g5 0 rfl (bC b a3 c3) _ HB5.out.all Tryz.underlying26 rfl (sB HL.out _ _) ?_)
  refine KE.mono ?_
  clear KE
  rintro e w6 ⟨v6, rfl, H⟩
  have HZ6 : Hid (Below W.heap.size W w6) := HZ5.out.trans (H.out.2.mono HZ5.out.size)
  have HB2 : Hid (Blk w6 g2 26 (bC b a c)) := HB2.out.below H.out.2 HB2.out.lt
  have HB5 : Hid (Blk w6 g5 26 (bC b a3 c3)) := HB5.out.below H.out.2 HB5.out.lt
  have HE6 : Hid (EsM w6 a3 b.es) := HE5.out.below H.out.2
  obtain ⟨a6, k6, rfl, hb6, _, _, _⟩ := H.out.1.byt
  have HY6 : Hid (Byt w6 a6 (encL b data)) := hb6
  clear H hb6 HZ5 HE5
  have KE := renc_any b HB.out HWS.out a c data w6 (HE.out.below HZ6.out)
  go_wp2_with (refine ld_w (by rfl) 26 (.tmp 2) rfl g2 0 rfl (bC b a c) _ HB2.out.all Tryz.underlying26 rfl (sB HL.out _ _) ?_)
  refine KE.mono ?_
  clear KE
  rintro e w7 ⟨v7, rfl, H⟩
  have HZ7 : Hid (Below W.heap.size W w7) := HZ6.out.trans (H.out.2.mono HZ6.out.size)
  have HB2 : Hid (Blk w7 g2 26 (bC b a c)) := HB2.out.below H.out.2 HB2.out.lt
  have HB5 : Hid (Blk w7 g5 26 (bC b a3 c3)) := HB5.out.below H.out.2 HB5.out.lt
  have HE7 : Hid (EsM w7 a3 b.es) := HE6.out.below H.out.2
  have HY6 : Hid (Byt w7 a6 (encL b data)) := HY6.out.below H.out.2
  obtain ⟨a7, k7, rfl, hb7, _, _, _⟩ := H.out.1.byt
  have HY7 : Hid (Byt w7 a7 (encL b data)) := hb7
  clear H hb7 HZ6 HE6
  obtain ⟨l, Hl⟩ : ∃ l, Hid (encL b data = l) := ⟨_, rfl⟩
  rw [Hl.out] at HY6 HY7 HO1 HO2 ⊢
  have KS := same_any a6 a7 k6 k7 l (by have := HO2.out; omega) w7 HY6.out HY7.out HO1.out
  obtain ⟨E, HEE⟩ : ∃ E, Hid (chkB b = E) := ⟨_, rfl⟩
  rw [HEE.out]
  clear HY6 HY7 Hl HEE
  go_wp2_with fail
  refine KS.mono ?_
  clear KS
  rintro e w8 ⟨rfl, q, hq⟩
  have G8 : Below w7.heap.size w7 w8 := by rw [hq]; exact below_drewN (Below.refl _ _) q
  have HZ8 : Hid (Below W.heap.size W w8) := HZ7.out.trans (G8.mono HZ7.out.size)
  have HB2 : Hid (Blk w8 g2 26 (bC b a c)) := HB2.out.below G8 HB2.out.lt
  have HB5 : Hid (Blk w8 g5 26 (bC b a3 c3)) := HB5.out.below G8 HB5.out.lt
  have HE8 : Hid (EsM w8 a3 b.es) := HE7.out.below G8
  clear hq G8 HE7 HZ7
  have KB := blocks_same b HB.out a3 c3 a c w8 HE8.out (HE.out.below HZ8.out)
  go_wp2_with (first | (refine ld_w (by rfl) 26 (.tmp 5) rfl g5 0 rfl (bC b a3 c3) _ HB5.out.all Tryz.underlying26 rfl (sB HL.out _ _) ?_) | (refine ld_w (by rfl) 26 (.tmp 2) rfl g2 0 rfl (bC b a c) _ HB2.out.all Tryz.underlying26 rfl (sB HL.out _ _) ?_))
  refine KB.mono ?_
  clear KB
  rintro e w9 ⟨rfl, H⟩
  have HZ9 : Hid (Below W.heap.size W w9) := HZ8.out.trans (H.out.mono HZ8.out.size)
  clear H HZ8 HB2 HB5 HE8
  have KK := bknown_any w9
  go_wp2_with fail
  refine KK.mono ?_
  clear KK
  rintro e w10 ⟨rfl, H⟩
  have HF : Hid (Below W.heap.size W w10) := HZ9.out.trans (H.out.mono HZ9.out.size)
  clear H HZ9
  go_wp2
  go_ret
  exact ⟨rfl, HF.out⟩
end Go.Proofs.YtmbglggodifboaaGreat.Sh
namespace Go.Proofs.YtmbglggodifboaaGreat.Sh
open Go.RowKit Go.ChangeShapes Go.WideShapes Math Mt
set_option linter.unusedVariables false
theorem mapM_all {α β : Type} {f : α → Option β} : ∀ {l : List α} {ys : List β}, l.mapM f = some ys → ∀ a ∈ l, ∃ y, f a = some y
  | [], _, _, a, ha => by cases ha
  | b :: l, ys, h, a, ha => by
    rw [List.mapM_cons] at h
    simp only [bind, Option.bind_eq_some_iff, pure, Option.some.injEq] at h
    obtain ⟨y, hy, zs, hz, _⟩ := h
    rcases List.mem_cons.1 ha with rfl | ha
    · exact ⟨y, hy⟩
    · exact mapM_all hz a ha
def natOf : Option Value → Nat
  | some (.int _ n) => n.toNat
  | _ => 0
set_option maxRecDepth 8000 in
theorem open_hash {H : Type} {enc : TypeId × Value → H} {w : World} {base : Nat} {spare : Nat → Bool} {held : Bool} {fuel : Nat} {cs : Array Value} {x : DataW H × List MemPlace} (hn : cs.size = 32)
    (h : DataW.trod enc Tryz.prog w base spare held fuel 23 cs.toList = some x) : ∃ l : List Nat, l.length = 32 ∧ Oct l ∧ cs = (nums .u8 l).toArray := by
  have hall : ∀ i, i < 32 → ∃ n : Nat, n < 256 ∧ cs[i]? = some (.int .u8 (n : Int)) := by
    cases fuel with
    | zero => simp [DataW.trod] at h
    | succ m =>
      unfold DataW.trod at h
      rw [Tryz.underlying23] at h
      simp only [cells5, Nat.mul_one] at h
      split at h
      · rename_i hh
        simp only [Option.map_eq_some_iff] at h
        obtain ⟨ys, hys, _⟩ := h
        intro i hi
        obtain ⟨y, hy⟩ := mapM_all hys i (List.mem_range.2 hi)
        obtain ⟨n, hcs, _, hwf⟩ := DataW.trod_int Tryz.underlying5 hy
        have hb := bounds_u8 hwf
        refine ⟨n.toNat, by omega, ?_⟩
        have h0 : (List.take 1 (List.drop i cs.toList))[0]? = some (Value.int .u8 n) := by rw [hcs]; rfl
        rw [List.getElem?_take, if_pos (by decide), List.getElem?_drop, Nat.add_zero, Array.getElem?_toList] at h0
        rw [h0, Int.toNat_of_nonneg hb.1]
      · cases h
  refine ⟨(List.range 32).map fun i => natOf cs[i]?, by simp, fun y hy => ?_, ?_⟩
  · obtain ⟨i, hi, rfl⟩ := List.mem_map.1 hy
    obtain ⟨n, hn', e⟩ := hall i (List.mem_range.1 hi)
    rw [e]; simpa [natOf] using hn'
  · apply Array.ext_getElem?
    intro i
    by_cases hi : i < 32
    · obtain ⟨n, hn', e⟩ := hall i hi
      have h2 : (nums .u8 ((List.range 32).map fun i => natOf cs[i]?)).toArray[i]? = some (.int .u8 (n : Int)) := by
        rw [List.getElem?_toArray, nums_get .u8 _ i (by simpa using hi)]
        simp [List.getD_eq_getElem?_getD, List.getElem?_range hi, e, natOf]
      exact e.trans h2.symm
    · have h2 : (nums .u8 ((List.range 32).map fun i => natOf cs[i]?)).toArray[i]? = none := by
        rw [List.getElem?_toArray, List.getElem?_eq_none (by rw [nums_length]; simp; omega)]
      exact (Array.getElem?_eq_none (by omega)).trans h2.symm
theorem cellsHash : Tryz.prog.cellsOf 23 = 32 := by kernel_rfl
theorem cellsEn : Tryz.prog.cellsOf 52 = 46 := by kernel_rfl
theorem cellsBk : Tryz.prog.cellsOf 26 = 36 := by kernel_rfl
theorem cellsEs : Tryz.prog.cellsOf 24 = 1 := by kernel_rfl
theorem cellsAd : Tryz.prog.cellsOf 50 = 2 := by kernel_rfl
theorem cells4' : Tryz.prog.cellsOf 4 = 1 := by kernel_rfl
theorem bytesEn : 1 ≤ Tryz.prog.bytesOf 52 := of_decide_eq_true (by kernel_rfl)
theorem mkList {α : Type} {P : Nat → α → Prop} : ∀ (n : Nat), (∀ i, i < n → ∃ x, P i x) → ∃ l : List α, l.length = n ∧ ∀ i x, l[i]? = some x → P i x
  | 0, _ => ⟨[], rfl, fun i x h => by cases h⟩
  | n + 1, h => by
    obtain ⟨l, h1, h2⟩ := mkList n fun i hi => h i (by omega)
    obtain ⟨x, hx⟩ := h n (by omega)
    refine ⟨l ++ [x], by simp [h1], fun i y hy => ?_⟩
    by_cases hi : i < n
    · rw [List.getElem?_append_left (by omega)] at hy; exact h2 i y hy
    · have : i = n := by have := (List.getElem?_eq_some_iff.1 hy).1; simp [h1] at this; omega
      subst this
      rw [← h1, List.getElem?_concat_length] at hy
      rw [← Option.some.inj hy]; exact hx
theorem cutL {α : Type} (l : List α) (k n m : Nat) (h : k + n = m) : l.drop k = (l.drop k).take n ++ l.drop m := by
  subst h
  rw [← List.drop_drop]
  exact (List.take_append_drop n _).symm
theorem two_of {α : Type} : ∀ {x : List α} {p q : α}, x.length = 2 → (x.drop 0).take 1 = [p] → (x.drop 1).take 1 = [q] → x = [p, q]
  | [a, b], p, q, _, h1, h2 => by simp at h1 h2; rw [h1, h2]
theorem nineL {α : Type} : ∀ {l : List α}, l.length = 9 → ∃ a b c d e f g h i, l = [a, b, c, d, e, f, g, h, i]
  | [a, b, c, d, e, f, g, h, i], _ => ⟨a, b, c, d, e, f, g, h, i, rfl⟩
theorem fiveL {α : Type} : ∀ {l : List α}, l.length = 5 → ∃ a b c d e, l = [a, b, c, d, e]
  | [a, b, c, d, e], _ => ⟨a, b, c, d, e, rfl⟩
theorem i64_of {n : Int} (h : (Lit.int .i64 n).wf = true) : I64 n := by
  have := bounds_i64 h
  exact ⟨by omega, by omega⟩
set_option maxRecDepth 8000 in
theorem open_ent {H : Type} {enc : TypeId × Value → H} {W : World} {n : Nat} {cs : List Value} {y : DataW H × List MemPlace} (h : DataW.trod enc Tryz.prog W 0 (fun _ => true) true n 52 cs = some y) (hw : ∀ n ∈ y.1.weights Tryz.prog 52, n ≤ reachBytes) :
    ∃ e na nc ka kc, cs = eC e na nc ka kc ∧ Vl W e.v na nc ka kc ∧ EnW e := by
  obtain ⟨xs, k, hk, hxy, hlen, hxl, hf⟩ := DataW.trod_struct Tryz.underlying52 h
  rw [cellsEn] at hlen
  obtain ⟨y0, y1, y2, y3, y4, y5, y6, y7, y8, rfl⟩ := nineL (show xs.length = 9 from hxl)
  have g0 : DataW.trod enc Tryz.prog W 0 (fun _ => true) true k 3 ((cs.drop 0).take (Tryz.prog.cellsOf 3)) = some y0 := hf 0 _ rfl
  have g1 : DataW.trod enc Tryz.prog W 0 (fun _ => true) true k 9 ((cs.drop 1).take (Tryz.prog.cellsOf 9)) = some y1 := hf 1 _ rfl
  have g2 : DataW.trod enc Tryz.prog W 0 (fun _ => true) true k 3 ((cs.drop 2).take (Tryz.prog.cellsOf 3)) = some y2 := hf 2 _ rfl
  have g3 : DataW.trod enc Tryz.prog W 0 (fun _ => true) true k 3 ((cs.drop 3).take (Tryz.prog.cellsOf 3)) = some y3 := hf 3 _ rfl
  have g4 : DataW.trod enc Tryz.prog W 0 (fun _ => true) true k 3 ((cs.drop 4).take (Tryz.prog.cellsOf 3)) = some y4 := hf 4 _ rfl
  have g5 : DataW.trod enc Tryz.prog W 0 (fun _ => true) true k 48 ((cs.drop 5).take (Tryz.prog.cellsOf 48)) = some y5 := hf 5 _ rfl
  have g6 : DataW.trod enc Tryz.prog W 0 (fun _ => true) true k 23 ((cs.drop 11).take (Tryz.prog.cellsOf 23)) = some y6 := hf 6 _ rfl
  have g7 : DataW.trod enc Tryz.prog W 0 (fun _ => true) true k 4 ((cs.drop 43).take (Tryz.prog.cellsOf 4)) = some y7 := hf 7 _ rfl
  have g8 : DataW.trod enc Tryz.prog W 0 (fun _ => true) true k 50 ((cs.drop 44).take (Tryz.prog.cellsOf 50)) = some y8 := hf 8 _ rfl
  rw [cells3] at g0 g2 g3 g4
  rw [cells9] at g1
  rw [cells25] at g5
  rw [cellsHash] at g6
  rw [cells4'] at g7
  rw [cellsAd] at g8
  have hw2 : ∀ (j : Nat) (t : TypeId) (d : DataW H), [(3 : TypeId), 9, 3, 3, 3, 48, 23, 4, 50][j]? = some t → [y0.1, y1.1, y2.1, y3.1, y4.1, y5.1, y6.1, y7.1, y8.1][j]? = some d → ∀ n ∈ d.weights Tryz.prog t, n ≤ reachBytes := fun j t d ht hd n hn => by
    refine hw n ?_
    rw [hxy]
    simp only [DataW.weights, Tryz.underlying52]
    exact DataW.weights_mem_each (j := j) ht hd n hn
  obtain ⟨z0, e0, r0, q0⟩ := DataW.trod_int Tryz.underlying3 g0
  obtain ⟨s1, e1, r1, _⟩ := DataW.trod_string Tryz.underlying9 g1
  obtain ⟨z2, e2, r2, q2⟩ := DataW.trod_int Tryz.underlying3 g2
  obtain ⟨z3, e3, r3, q3⟩ := DataW.trod_int Tryz.underlying3 g3
  obtain ⟨z4, e4, r4, q4⟩ := DataW.trod_int Tryz.underlying3 g4
  obtain ⟨p, na, nc, ka, kc, e5, hvl, hwf⟩ := open_val k g5 (hw2 5 48 y5.1 rfl rfl)
  obtain ⟨l, hl1, hl2, e6⟩ := open_hash (cs := ((cs.drop 11).take 32).toArray) (by simp; omega) (by simpa using g6)
  have e6 : (cs.drop 11).take 32 = nums .u8 l := by simpa using congrArg Array.toList e6
  obtain ⟨b7, e7, _⟩ := DataW.trod_bool Tryz.underlying4 g7
  obtain ⟨u0, u1, k2, _, hlA, f0, f1⟩ := trod_struct2 Tryz.underlying50 g8
  have f0 : DataW.trod enc Tryz.prog W 0 (fun _ => true) true k2 3 ((((cs.drop 44).take 2).drop 0).take (Tryz.prog.cellsOf 3)) = some u0 := f0
  have f1 : DataW.trod enc Tryz.prog W 0 (fun _ => true) true k2 3 ((((cs.drop 44).take 2).drop 1).take (Tryz.prog.cellsOf 3)) = some u1 := f1
  rw [cells3] at f0 f1
  obtain ⟨z8, e8, r8, q8⟩ := DataW.trod_int Tryz.underlying3 f0
  obtain ⟨z9, e9, r9, q9⟩ := DataW.trod_int Tryz.underlying3 f1
  have e89 : (cs.drop 44).take 2 = [.int .i64 z8, .int .i64 z9] := two_of (by simp; omega) e8 e9
  have hT : s1.size ≤ 140737488355328 := by
    have := hw2 1 9 y1.1 rfl rfl s1.data.toList.length (by rw [r1]; simp [DataW.weights])
    simp only [reachBytes, Array.length_toList] at this
    exact Nat.le_trans this (by decide)
  refine ⟨⟨z0, s1, z2, z3, z4, p, l, b7, z8, z9⟩, na, nc, ka, kc, ?_, hvl, ⟨i64_of q0, hT, i64_of q2, i64_of q3, i64_of q4, hwf, ⟨hl1, hl2⟩, i64_of q8, i64_of q9⟩⟩
  have hend : cs.drop 46 = [] := List.drop_of_length_le (by omega)
  have c0 := cutL cs 0 1 1 rfl
  rw [cutL cs 1 1 2 rfl, cutL cs 2 1 3 rfl, cutL cs 3 1 4 rfl, cutL cs 4 1 5 rfl, cutL cs 5 6 11 rfl, cutL cs 11 32 43 rfl, cutL cs 43 1 44 rfl, cutL cs 44 2 46 rfl, hend, e0, e1, e2, e3, e4, e5, e6, e7, e89, List.drop_zero] at c0
  rw [c0]
  rfl
set_option maxRecDepth 8000 in
theorem open_blk {H : Type} {enc : TypeId × Value → H} {W : World} {n : Nat} {cs : List Value} {y : DataW H × List MemPlace} (h : DataW.trod enc Tryz.prog W 0 (fun _ => true) true n 26 cs = some y) (hw : ∀ n ∈ y.1.weights Tryz.prog 26, n ≤ reachBytes) :
    ∃ b a c, cs = bC b a c ∧ EsM W a b.es ∧ BkW b := by
  obtain ⟨xs, k, hk, hxy, hlen, hxl, hf⟩ := DataW.trod_struct Tryz.underlying26 h
  rw [cellsBk] at hlen
  obtain ⟨y0, y1, y2, y3, y4, rfl⟩ := fiveL (show xs.length = 5 from hxl)
  have g0 : DataW.trod enc Tryz.prog W 0 (fun _ => true) true k 3 ((cs.drop 0).take (Tryz.prog.cellsOf 3)) = some y0 := hf 0 _ rfl
  have g1 : DataW.trod enc Tryz.prog W 0 (fun _ => true) true k 3 ((cs.drop 1).take (Tryz.prog.cellsOf 3)) = some y1 := hf 1 _ rfl
  have g2 : DataW.trod enc Tryz.prog W 0 (fun _ => true) true k 3 ((cs.drop 2).take (Tryz.prog.cellsOf 3)) = some y2 := hf 2 _ rfl
  have g3 : DataW.trod enc Tryz.prog W 0 (fun _ => true) true k 23 ((cs.drop 3).take (Tryz.prog.cellsOf 23)) = some y3 := hf 3 _ rfl
  have g4 : DataW.trod enc Tryz.prog W 0 (fun _ => true) true k 24 ((cs.drop 35).take (Tryz.prog.cellsOf 24)) = some y4 := hf 4 _ rfl
  rw [cells3] at g0 g1 g2
  rw [cellsHash] at g3
  rw [cellsEs] at g4
  have hw4 : ∀ n ∈ y4.1.weights Tryz.prog 24, n ≤ reachBytes := fun n hn => by
    refine hw n ?_
    rw [hxy]
    simp only [DataW.weights, Tryz.underlying26]
    exact DataW.weights_mem_each (j := 4) (t := 24) (d := y4.1) rfl rfl n hn
  obtain ⟨z0, e0, r0, q0⟩ := DataW.trod_int Tryz.underlying3 g0
  obtain ⟨z1, e1, r1, q1⟩ := DataW.trod_int Tryz.underlying3 g1
  obtain ⟨z2, e2, r2, q2⟩ := DataW.trod_int Tryz.underlying3 g2
  obtain ⟨l, hl1, hl2, e3⟩ := open_hash (cs := ((cs.drop 3).take 32).toArray) (by simp; omega) (by simpa using g3)
  have e3 : (cs.drop 3).take 32 = nums .u8 l := by simpa using congrArg Array.toList e3
  obtain ⟨es, a, c, e4, hE, hEW, hEl⟩ : ∃ (es : List En) (a : Option Addr) (c : Nat), (cs.drop 35).take 1 = [.slice a es.length c] ∧ EsM W a es ∧ (∀ e ∈ es, EnW e) ∧ es.length ≤ 140737488355328 := by
    rcases DataW.trod_slice Tryz.underlying24 g4 with ⟨hcs, _⟩ | ⟨ad, len, cap, elems, rest, m, hm0, hcs, hx, _, hl, hm, hel, hei, _, _⟩
    · exact ⟨[], none, 0, hcs, .inl rfl, by simp, by simp⟩
    · have hlen : len ≤ 140737488355328 := by
        have := hw4 _ (by rw [hx]; simp only [DataW.weights, Tryz.underlying24]; exact List.mem_cons_self)
        have hb := bytesEn
        simp only [List.length_map, reachBytes] at this
        have h2 : (elems.length + rest.length) * 1 ≤ (elems.length + rest.length) * Tryz.prog.bytesOf 52 := Nat.mul_le_mul_left _ hb
        have h3 : elems.length = len := hel
        omega
      have each : ∀ i, i < len → ∃ e : En, EnW e ∧ ∃ na nc ka kc, W.cells? 0 (ad.add (i * 46)) 46 = some (eC e na nc ka kc) ∧ Vl W e.v na nc ka kc := by
        intro i hi
        have hh := hei i hi
        rw [List.getElem?_eq_getElem (by omega)] at hh
        obtain ⟨cs', c1, c2⟩ := Option.bind_eq_some_iff.1 hh
        obtain ⟨e, na, nc, ka, kc, d1, d2, d3⟩ := open_ent c2 (fun n hn => hw4 n (by
          rw [hx]
          simp only [DataW.weights, Tryz.underlying24]
          refine List.mem_cons_of_mem _ (List.mem_append.2 (.inl (weightsAll_mem (d := elems[i].1) (List.mem_map.2 ⟨elems[i], List.getElem_mem _, rfl⟩) hn)))))
        rw [cellsEn] at c1
        exact ⟨e, d3, na, nc, ka, kc, by rw [← d1]; exact c1, d2⟩
      obtain ⟨es, hL1, hL2⟩ := mkList (P := fun i (e : En) => EnW e ∧ ∃ na nc ka kc, W.cells? 0 (ad.add (i * 46)) 46 = some (eC e na nc ka kc) ∧ Vl W e.v na nc ka kc) len each
      refine ⟨es, some ad, cap, by rw [hcs, hL1], ?_, fun x hx => ?_, by omega⟩
      · by_cases h0 : len = 0
        · exact .inl (List.eq_nil_of_length_eq_zero (by omega))
        · obtain ⟨b, off, spot⟩ := ad
          have hs : spot = none := by
            obtain ⟨e, p1, na, nc, ka, kc, c1, _⟩ := each 0 (by omega)
            obtain ⟨_, _, hcell⟩ := World.cells?_some c1
            have := hcell 0 (by decide)
            simpa [Addr.add] using World.cell?_spot (this.trans (show (eC e na nc ka kc)[0]? = some (.int .i64 e.k) from rfl))
          subst hs
          refine .inr ⟨b, off, rfl, fun i x hx => ?_⟩
          obtain ⟨p1, na, nc, ka, kc, c1, c2⟩ := hL2 i x hx
          refine ⟨na, nc, ka, kc, fun j v hj => ?_, c2⟩
          obtain ⟨_, _, hcell⟩ := World.cells?_some c1
          simp only [Addr.add_lit] at hcell
          have hj2 := (List.getElem?_eq_some_iff.1 hj).1
          exact (hcell j (by rw [eC_len p1.h.1] at hj2; exact hj2)).trans hj
      · obtain ⟨i, hi, rfl⟩ := List.getElem_of_mem hx
        exact (hL2 i _ (List.getElem?_eq_getElem hi)).1
  refine ⟨⟨z0, z1, z2, l, es⟩, a, c, ?_, hE, ⟨i64_of q0, i64_of q1, i64_of q2, ⟨hl1, hl2⟩, hEW, hEl⟩⟩
  have hend : cs.drop 36 = [] := List.drop_of_length_le (by omega)
  have c0 := cutL cs 0 1 1 rfl
  rw [cutL cs 1 1 2 rfl, cutL cs 2 1 3 rfl, cutL cs 3 32 35 rfl, cutL cs 35 1 36 rfl, hend, e0, e1, e2, e3, e4, List.drop_zero] at c0
  rw [c0]
  rfl
end Go.Proofs.YtmbglggodifboaaGreat.Sh
