/-
  small: one with a table. · known: there and back.
-/
import Derived.Test.YtmbglggodifboabQG48x
namespace Go.Proofs.Ytmbglggodifboab.Sh
open Go Go.RowKit Math Mt
set_option linter.unusedVariables false
set_option linter.unusedSimpArgs false
def smE : En := ⟨5, ⟨#[116]⟩, 1, 0, 0, nv, zr, false, 0, 0⟩
def smB : Bk := ⟨0, 0, 0, zr, [smE]⟩
theorem smE_w : EnW smE := ⟨⟨by decide, by decide⟩, by decide, ⟨by decide, by decide⟩, ⟨by decide, by decide⟩, ⟨by decide, by decide⟩, wf_nv, h32_zr, ⟨by decide, by decide⟩, ⟨by decide, by decide⟩⟩
theorem smB_w : BkW smB := ⟨⟨by decide, by decide⟩, ⟨by decide, by decide⟩, ⟨by decide, by decide⟩, h32_zr, fun e he => by rw [List.mem_singleton.1 he]; exact smE_w, by decide⟩
theorem smB_lk : ∀ e ∈ smB.es, Lk e.v := fun e he => by rw [List.mem_singleton.1 he]; exact lk_nv
theorem bd_sm (a : Act) : Try.prog.built 45 ((#[(0, .const (.int .i64 5)), (2, .const (.int .i64 1)), (1, .const (.string ⟨#[116]⟩))] : Array (Nat × Operand)).map fun p => (p.1, a.eval p.2)).toList = some (eC smE none 0 none 0).toArray := by kernel_rfl
theorem bd_sb (a : Act) (g : Nat) (hx : a.eval (.tmp 2) = .slice (some ⟨g, 0, none⟩) 1 1) : Try.prog.built 26 ((#[(4, .tmp 2)] : Array (Nat × Operand)).map fun p => (p.1, a.eval p.2)).toList = some (bC smB (some ⟨g, 0, none⟩) 1).toArray := by
  simp only [List.map_toArray, List.map_cons, List.map_nil, hx]
  kernel_rfl
set_option maxHeartbeats 400000 in
set_option maxRecDepth 8000 in
theorem small_any (w : World) :
    Calls Try.prog 14 #[] w fun e' w' => ∃ g, e' = .returned (.agg (bC smB (some ⟨g, 0, none⟩) 1).toArray) ∧ Hid (EsM w' (some ⟨g, 0, none⟩) smB.es ∧ Below w.heap.size w w') := by
  go_enter Try.func14, Try.ntmps14
  go_wp2_with (refine al_zero rfl 26 rfl (bC noB none 0) zBl ?_)
  intro g0 w1 l0 B0 G0
  have Z := (Below.refl w.heap.size w).grown G0 (Nat.le_refl _) (by simp)
  clear G0
  have B0' := B0.alloc (.cells (eC smE none 0 none 0).toArray 45)
  have HZ : Hid (Below w.heap.size w (w1.alloc (.cells (eC smE none 0 none 0).toArray 45))) := Z.alloc Z.size _
  have HR : Hid ((w1.alloc (.cells (eC smE none 0 none 0).toArray 45)).rangeAt w1.heap.size 0 (eC smE none 0 none 0)) := fun j u hj => by
    rw [Nat.zero_add, World.cell?_alloc_new]
    show (eC smE none 0 none 0).toArray[j]? = some u
    rw [List.getElem?_toArray]
    exact hj
  have hb0 := B0.lt
  clear Z B0
  go_wp2_with (first
    | (refine bd_w (by rfl) 45 _ rfl (eC smE none 0 none 0) (bd_sm _) ?_)
    | (refine bs_en rfl (.tmp 1) rfl (eC smE none 0 none 0) rfl rfl ?_)
    | (refine bd_w (by rfl) 26 _ rfl (bC smB (some ⟨w1.heap.size, 0, none⟩) 1) (bd_sb _ _ rfl) ?_)
    | (refine st_all rfl 26 (.tmp 0) (.tmp 3) rfl g0 26 (bC noB none 0) (bC smB (some ⟨w1.heap.size, 0, none⟩) 1) rfl rfl B0' rfl (sB zr_len _ _) (bC_one _ _ _) ?_))
  intro wz BZ G0
  have HF : Hid (EsM wz (some ⟨w1.heap.size, 0, none⟩) smB.es ∧ Below w.heap.size w wz) := by
    refine ⟨.inr ⟨w1.heap.size, 0, rfl, fun i e he => ?_⟩, Sh.grown_below HZ.out G0 HZ.out.size l0⟩
    obtain ⟨hi, he'⟩ := List.getElem?_eq_some_iff.1 he
    have hi0 : i = 0 := by have : i < 1 := hi; omega
    subst hi0
    obtain rfl : smE = e := he'
    refine ⟨none, 0, none, 0, fun j u hj => ?_, (vl_lf wz 0 0 0 em).vl⟩
    exact G0.cell (HR.out j u hj) (by intro e; have := Option.some.inj e; simp at this; omega)
  clear G0 B0' HR HZ
  go_wp2
  (try simp only [Exit.inBlock, Exit.then])
  refine bodyPost_ret (Sh.res_row rfl _ g0 26 _ _ rfl BZ Try.underlying26 rfl (sB zr_len _ _)) rfl ⟨w1.heap.size, rfl, HF.out⟩
end Go.Proofs.Ytmbglggodifboab.Sh
namespace Go.Proofs.Ytmbglggodifboab.Sh
open Go Go.RowKit Math Mt
set_option linter.unusedVariables false
set_option linter.unusedSimpArgs false
theorem sm_chk : chkB smB = 0 := by kernel_rfl
theorem no_chk : chkB noB = 1 := by kernel_rfl
theorem sm_enc : encL smB true = blkB smB true := by unfold encL; rw [if_pos sm_chk]
theorem sm_len : (blkB smB true).length ≤ 65536 := of_decide_eq_true (by kernel_rfl)
theorem sm_oct : Oct (blkB smB true) := blk_oct smB_w (chk_zero sm_chk).2.1 true
theorem sm_dec : decB (blkB smB true) = 0 ∧ decK (blkB smB true) = smB := dec_bk smB_w sm_chk
set_option maxHeartbeats 1000000 in
set_option maxRecDepth 8000 in
theorem bknown_any (w : World) : Calls Try.prog 7 #[] w fun e' w' => e' = .returned (.bool true) ∧ Hid (Below w.heap.size w w') := by
  go_enter Try.func7, Try.ntmps7
  have K := small_any w
  go_wp2_with fail
  refine K.mono ?_
  clear K
  rintro e w1 ⟨g, rfl, H⟩
  have Z := H.out.2
  have K := enc_any smB smB_w smB_lk (some ⟨g, 0, none⟩) 1 true w1 H.out.1
  rw [sm_chk, sm_enc] at K
  clear H
  obtain ⟨L, hL⟩ : ∃ L, Hid (blkB smB true = L) := ⟨_, rfl⟩
  rw [hL.out] at K
  go_wp2_with fail
  refine K.mono ?_
  clear K
  rintro e w2 ⟨v, rfl, H⟩
  have Z := Z.trans (H.out.2.mono Z.size)
  have hO := H.out.1
  clear H
  obtain ⟨ax, cx, rfl, hB, hnil, hc, hcm⟩ := hO.byt
  unfold maxLen at hcm
  have HO : Hid (Own w2 w1.heap.size (.slice ax L.length cx) L) := hO
  have K := bdec_any w2 ax cx L hB hnil (by omega) (by omega) (by rw [← hL.out]; exact sm_oct) (by rw [← hL.out]; have := sm_len; omega) (bsf_short (by rw [← hL.out]; exact sm_oct) (by rw [← hL.out]; exact sm_len))
  have e1 : decB L = 0 := by rw [← hL.out]; exact sm_dec.1
  have e2 : decK L = smB := by rw [← hL.out]; exact sm_dec.2
  rw [e1, e2] at K
  clear hB hnil hc hO HO e1
  go_wp2_with fail
  refine K.mono ?_
  clear K
  rintro e w3 ⟨a, c, rfl, H⟩
  have Z := Z.trans (H.out.bl.mono Z.size)
  have HE : Hid (EsM w3 a smB.es) := by have h := H.out.esm; rw [e2] at h; exact h
  clear H e2 hL
  go_wp2_with (refine al_zero rfl 26 rfl (bC noB none 0) zBl ?_)
  intro g3 w4 l3 B3 G0
  have Z6 := (Below.refl w3.heap.size w3).grown G0 (Nat.le_refl _) (by simp)
  clear G0
  go_wp2_with (refine st_all rfl 26 (.tmp 3) (.tmp 13) rfl g3 26 (bC noB none 0) (bC smB a c) rfl rfl B3 (by rw [bC_len (b := smB) zr_len, bC_len zr_len]) (sB (b := smB) zr_len _ _) (bC_one _ _ _) ?_)
  intro w5 B3' G0
  have Z7 := Sh.grown_below Z6 G0 Z6.size l3
  have HE : Hid (EsM w5 a smB.es) := HE.out.below Z7
  have HZ : Hid (Below w.heap.size w w5) := Z.trans (Z7.mono Z.size)
  have HB : Hid (Blk w5 g3 26 (bC smB a c)) := B3'
  clear B3' G0 Z6 Z7 Z B3
  obtain ⟨C, hC⟩ : ∃ C : World → Prop, C = fun W => Below w5.heap.size w5 W := ⟨_, rfl⟩
  have C0 : Hid (C { w5 with drawn := w5.drawn + 1 }) := by rw [hC]; exact Below.drew (Below.refl _ _)
  have CO : Hid (∀ W, C W → Below w5.heap.size w5 W) := fun W h => by rw [hC] at h; exact h
  have CB : Hid (∀ W W', C W → Below W.heap.size W W' → C W') := fun W W' h h2 => by rw [hC] at h ⊢; exact h.trans (h2.mono h.size)
  have FB : Hid (∀ W, C W → W.rangeAt g3 0 (bC smB a c)) := fun W h => (HB.out.below (CO.out W h) HB.out.lt).all
  have FE : Hid (∀ W, C W → EsM W a smB.es) := fun W h => HE.out.below (CO.out W h)
  clear hC
  go_wp2_with fail
  refine region_calm C 16 (by kernel_rfl) ?_
  have hCp : ∀ p : Prop, (∀ W, C W → p) ↔ p := fun p => ⟨fun h => h _ C0.out, fun h _ _ => h⟩
  generalize ({ w5 with drawn := w5.drawn + 1 } : World) = y0 at *
  refine seg 10 [0, 1, 2, 3, 4, 5, 6] rfl (by kernel_rfl) whole_blind (C0.out) (by kernel_rfl) ?_
  change wpQuiet _ _ _ _ (_ :: _ :: _ :: _ :: _ :: _ :: _ :: []) _
  repeat (first
    | go_big_quiet_skip
    | (go_big_quiet_want
       first
       | (go_big_quiet_op
          go_big_quiet_on)))
  refine wpQuiet_nil ?_
  refine seg 9 [7] rfl (by kernel_rfl) whole_blind (C0.out) (by kernel_rfl) ?_
  change wpQuiet _ _ _ _ (_ :: []) _
  repeat (first
    | go_big_quiet_skip
    | (go_big_quiet_want
       first
       | (refine q_load 26 (.tmp 3) rfl g3 0 rfl (bC smB a c) _ FB.out Try.underlying26 rfl (sB (b := smB) zr_len _ _) ?_
          simp only [Act.put, List.setIfInBounds_toArray, List.set_cons_zero, List.set_cons_succ]
          go_big_quiet_on)
       | (go_big_quiet_op
          go_big_quiet_on)))
  refine wpQuiet_nil ?_
  refine lone_do (i := 8) 8 rfl (by kernel_rfl) rfl (by rfl) ?_
  intro K hK
  refine oper_call 14 _ _ rfl #[] (by rw [List.map_toArray]; rfl) (enters Try.func14 (by kernel_rfl) rfl) (fun v w' => ∃ g, v = .agg (bC smB (some ⟨g, 0, none⟩) 1).toArray ∧ Hid (EsM w' (some ⟨g, 0, none⟩) smB.es ∧ Below y0.heap.size y0 w')) ((small_any y0).mono (by rintro e w' ⟨g, rfl, h⟩; exact ⟨_, rfl, g, rfl, h⟩)) ?_
  rintro v y1 ⟨gs, rfl, HS⟩
  have C1 : Hid (C y1) := CB.out y0 y1 C0.out HS.out.2
  refine hK _ _ (C1.out) ?_
  clear hK K
  simp only [Act.put, List.setIfInBounds_toArray, List.set_cons_zero, List.set_cons_succ]
  refine lone_do (i := 9) 7 rfl (by kernel_rfl) rfl (by rfl) ?_
  intro K hK
  refine oper_call 9 _ _ rfl #[.agg (bC smB a c).toArray, .agg (bC smB (some ⟨gs, 0, none⟩) 1).toArray] (by rw [List.map_toArray]; rfl) (enters Try.func9 (by kernel_rfl) rfl) (fun v w' => v = .bool true ∧ Hid (Below y1.heap.size y1 w')) ((blocks_same smB smB_w a c (some ⟨gs, 0, none⟩) 1 y1 (FE.out _ C1.out) HS.out.1).mono (by rintro e w' ⟨rfl, h⟩; exact ⟨_, rfl, rfl, h⟩)) ?_
  rintro v y2 ⟨rfl, H2⟩
  have C2 : Hid (C y2) := CB.out y1 y2 C1.out H2.out
  clear hCp
  have hCp : ∀ p : Prop, (∀ W, C W → p) ↔ p := fun p => ⟨fun h => h _ C2.out, fun h _ _ => h⟩
  refine hK _ _ (C2.out) ?_
  clear hK K
  simp only [Act.put, List.setIfInBounds_toArray, List.set_cons_zero, List.set_cons_succ]
  refine seg 4 [10, 11, 12] rfl (by kernel_rfl) whole_blind (C2.out) (by kernel_rfl) ?_
  change wpQuiet _ _ _ _ (_ :: _ :: _ :: []) _
  repeat (first
    | go_big_quiet_skip
    | (go_big_quiet_want
       first
       | (refine q_bd 26 #[] rfl (bC noB none 0) (bd_blk _) ?_
          simp only [Act.put, List.setIfInBounds_toArray, List.set_cons_zero, List.set_cons_succ]
          go_big_quiet_on)
       | (go_big_quiet_op
          go_big_quiet_on)))
  refine wpQuiet_nil ?_
  refine lone_do (i := 13) 3 rfl (by kernel_rfl) rfl (by rfl) ?_
  intro K hK
  refine oper_call 15 _ _ rfl #[.agg (bC noB none 0).toArray] (by rw [List.map_toArray]; rfl) (enters Try.func15 (by kernel_rfl) rfl) (fun v w' => v = .int .i64 1 ∧ Below y2.heap.size y2 w') ((check_any noB w_noB (by simp [noB]) none 0 y2 (.inl rfl)).mono (by rintro e w' ⟨rfl, h⟩; rw [no_chk]; exact ⟨_, rfl, rfl, h⟩)) ?_
  rintro v y3 ⟨rfl, H3⟩
  have C3 : Hid (C y3) := CB.out y2 y3 C2.out H3
  refine hK _ _ (C3.out) ?_
  clear hK K
  simp only [Act.put, List.setIfInBounds_toArray, List.set_cons_zero, List.set_cons_succ]
  refine seg 1 [14, 15] rfl (by kernel_rfl) whole_blind (C3.out) (by kernel_rfl) ?_
  change wpQuiet _ _ _ _ (_ :: _ :: []) _
  repeat (first
    | go_big_quiet_skip
    | (go_big_quiet_want
       first
       | (go_big_quiet_op
          go_big_quiet_on)))
  refine wpQuiet_nil ?_
  refine lone_calm (i := 16) 0 rfl (by kernel_rfl) rfl rfl (C3.out) ?_
  repeat (first
    | go_big_quiet_skip
    | (go_big_quiet_want
       first
       | (go_big_quiet_op
          go_big_quiet_on)))
  refine wpQuiet_nil ?_
  refine anyC_done (by kernel_rfl) ⟨rfl, ?_⟩
  have HF : Hid (Below w.heap.size w y3) := HZ.out.trans ((CO.out _ C3.out).mono HZ.out.size)
  clear C0 C1 C2 C3 CO CB FB FE hCp
  go_wp2
  go_ret
  exact ⟨rfl, HF.out⟩
end Go.Proofs.Ytmbglggodifboab.Sh
