import Derived.Test.YtmbglggodifboaaGreatSG47x
import Derived.Test.YtmbglggodifboaaGreatSBs5
set_option maxHeartbeats 1000000
set_option maxRecDepth 8000
set_option linter.unusedSimpArgs false
set_option linter.unusedVariables false
namespace Go.Proofs.YtmbglggodifboaaGreat.Sh
open Go Go.RowKit Math Mt
def smE : En := ⟨5, ⟨#[116]⟩, 1, 0, 0, nv, zr, false, 0, 0⟩
def smB : Bk := ⟨0, 0, 0, zr, [smE]⟩
theorem smE_w : EnW smE := ⟨⟨by decide, by decide⟩, by decide, ⟨by decide, by decide⟩, ⟨by decide, by decide⟩, ⟨by decide, by decide⟩, wf_nv, h32_zr, ⟨by decide, by decide⟩, ⟨by decide, by decide⟩⟩
theorem smB_w : BkW smB := ⟨⟨by decide, by decide⟩, ⟨by decide, by decide⟩, ⟨by decide, by decide⟩, h32_zr, fun e he => by rw [List.mem_singleton.1 he]; exact smE_w, by decide⟩
theorem smB_lk : ∀ e ∈ smB.es, Lk e.v := fun e he => by rw [List.mem_singleton.1 he]; exact lk_nv
theorem bd_sm (a : Act) : Tryz.prog.built 52 ((#[(0, .const (.int .i64 5)), (2, .const (.int .i64 1)), (1, .const (.string ⟨#[116]⟩))] : Array (Nat × Operand)).map fun p => (p.1, a.eval p.2)).toList = some (eC smE none 0 none 0).toArray := by kernel_rfl
theorem bd_sb (a : Act) (g : Nat) (hx : a.eval (.tmp 2) = .slice (some ⟨g, 0, none⟩) 1 1) : Tryz.prog.built 26 ((#[(4, .tmp 2)] : Array (Nat × Operand)).map fun p => (p.1, a.eval p.2)).toList = some (bC smB (some ⟨g, 0, none⟩) 1).toArray := by
 simp only [List.map_toArray, List.map_cons, List.map_nil, hx]
 kernel_rfl
theorem small_any (w : World) :
 Calls Tryz.prog 23 #[] w fun e' w' => ∃ g, e' = .returned (.agg (bC smB (some ⟨g, 0, none⟩) 1).toArray) /\ Hid (EsM w' (some ⟨g, 0, none⟩) smB.es /\ Below w.heap.size w w') := by
 go_enter Tryz.func23, Tryz.ntmps23
 go_wp2_with (refine al_zero rfl 26 rfl (bC noB none 0) zBl ?_)
 intro g0 w1 l0 B0 G0
 have Z := (Below.refl w.heap.size w).grown G0 (Nat.le_refl _) (by simp)
 clear G0
 have B0' := B0.alloc (.cells (eC smE none 0 none 0).toArray 52)
 have HZ : Hid (Below w.heap.size w (w1.alloc (.cells (eC smE none 0 none 0).toArray 52))) := Z.alloc Z.size _
 have HR : Hid ((w1.alloc (.cells (eC smE none 0 none 0).toArray 52)).rangeAt w1.heap.size 0 (eC smE none 0 none 0)) := fun j u hj => by
  rw [Nat.zero_add, World.cell?_alloc_new]
  show (eC smE none 0 none 0).toArray[j]? = some u
  rw [List.getElem?_toArray]
  exact hj
 have hb0 := B0.lt
 clear Z B0
 go_wp2_with (first
  | (refine bd_w (by rfl) 52 _ rfl (eC smE none 0 none 0) (bd_sm _) ?_)
  | (refine bs_en rfl (.tmp 1) rfl (eC smE none 0 none 0) rfl rfl ?_)
  | (refine bd_w (by rfl) 26 _ rfl (bC smB (some ⟨w1.heap.size, 0, none⟩) 1) (bd_sb _ _ rfl) ?_)
  | (refine st_all rfl 26 (.tmp 0) (.tmp 3) rfl g0 26 (bC noB none 0) (bC smB (some ⟨w1.heap.size, 0, none⟩) 1) rfl rfl B0' rfl (sB zr_len _ _) (bC_one _ _ _) ?_))
 intro wz BZ G0
 have HF : Hid (EsM wz (some ⟨w1.heap.size, 0, none⟩) smB.es /\ Below w.heap.size w wz) := by
  refine ⟨.inr ⟨w1.heap.size, 0, rfl, fun i e he => ?_⟩, Sh.grown_below HZ.out G0 HZ.out.size l0⟩
  obtain ⟨hi, he'⟩ := List.getElem?_eq_some_iff.1 he
  have hi0 : i = 0 := by have : i < 1 := hi; omega
  subst hi0
  obtain rfl : smE = e := he'
  refine ⟨none, 0, none, 0, fun j u hj => ?_, (vl_lf wz 0 0 0 em).vl⟩
  exact G0.cell (HR.out j u hj) (by intro e; have := Option.some.inj e; simp at this; omega)
 clear G0 B0' HR HZ
 go_wp2
 (try simp only [Exit.inBlock, Exit.then])
 refine bodyPost_ret (Sh.res_row rfl _ g0 26 _ _ rfl BZ Tryz.underlying26 rfl (sB zr_len _ _)) rfl ⟨w1.heap.size, rfl, HF.out⟩
theorem sm_chk : chkB smB = 0 := by kernel_rfl
theorem no_chk : chkB noB = 1 := by kernel_rfl
theorem sm_enc : encL smB true = blkB smB true := by unfold encL; rw [if_pos sm_chk]
theorem sm_len : (blkB smB true).length <= 65536 := of_decide_eq_true (by kernel_rfl)
theorem sm_oct : Oct (blkB smB true) := blk_oct smB_w (chk_zero sm_chk).2.1 true
theorem sm_dec : decB (blkB smB true) = 0 /\ decK (blkB smB true) = smB := dec_bk smB_w sm_chk
theorem bknown_any (w : World) : Calls Tryz.prog 11 #[] w fun e' w' => e' = .returned (.bool true) /\ Hid (Below w.heap.size w w') := by
 go_enter Tryz.func11, Tryz.ntmps11
 have K := small_any w
 go_wp2_with fail
 refine K.mono ?_
 clear K
 rintro e w1 ⟨g, rfl, H⟩
 have Z := H.out.2
 have K := enc_any smB smB_w smB_lk (some ⟨g, 0, none⟩) 1 true w1 H.out.1
 rw [sm_chk, sm_enc] at K
 clear H
 obtain ⟨L, hL⟩ : ∃ L, Hid (blkB smB true = L) := ⟨_, rfl⟩
 rw [hL.out] at K
 go_wp2_with fail
 refine K.mono ?_
 clear K
 rintro e w2 ⟨v, rfl, H⟩
 have Z := Z.trans (H.out.2.mono Z.size)
 have hO := H.out.1
 clear H
 obtain ⟨ax, cx, rfl, hB, hnil, hc, hcm⟩ := hO.byt
 unfold maxLen at hcm
 have HO : Hid (Own w2 w1.heap.size (.slice ax L.length cx) L) := hO
 have K := bdec_any w2 ax cx L hB hnil (by omega) (by omega) (by rw [<- hL.out]; exact sm_oct) (by rw [<- hL.out]; have := sm_len; omega) (bsf_short (by rw [<- hL.out]; exact sm_oct) (by rw [<- hL.out]; exact sm_len))
 have e1 : decB L = 0 := by rw [<- hL.out]; exact sm_dec.1
 have e2 : decK L = smB := by rw [<- hL.out]; exact sm_dec.2
 rw [e1, e2] at K
 clear hB hnil hc hO HO e1
 go_wp2_with fail
 refine K.mono ?_
 clear K
 rintro e w3 ⟨a, c, rfl, H⟩
 have Z := Z.trans (H.out.bl.mono Z.size)
 have HE : Hid (EsM w3 a smB.es) := by have h := H.out.esm; rw [e2] at h; exact h
 clear H e2 hL
 go_wp2_with (refine al_zero rfl 26 rfl (bC noB none 0) zBl ?_)
 intro g3 w4 l3 B3 G0
 have Z6 := (Below.refl w3.heap.size w3).grown G0 (Nat.le_refl _) (by simp)
 clear G0
 go_wp2_with (refine st_all rfl 26 (.tmp 3) (.tmp 13) rfl g3 26 (bC noB none 0) (bC smB a c) rfl rfl B3 (by rw [bC_len (b := smB) zr_len, bC_len zr_len]) (sB (b := smB) zr_len _ _) (bC_one _ _ _) ?_)
 intro w5 B3' G0
 have Z7 := Sh.grown_below Z6 G0 Z6.size l3
 have HE : Hid (EsM w5 a smB.es) := HE.out.below Z7
 have HZ : Hid (Below w.heap.size w w5) := Z.trans (Z7.mono Z.size)
 have HB : Hid (Blk w5 g3 26 (bC smB a c)) := B3'
 clear B3' G0 Z6 Z7 Z B3
 obtain ⟨C, hC⟩ : ∃ C : World -> Prop, C = fun W => Below w5.heap.size w5 W := ⟨_, rfl⟩
 have C0 : Hid (C { w5 with drawn := w5.drawn + 1 }) := by rw [hC]; exact Below.drew (Below.refl _ _)
 have CO : Hid (∀ W, C W -> Below w5.heap.size w5 W) := fun W h => by rw [hC] at h; exact h
 have CB : Hid (∀ W W', C W -> Below W.heap.size W W' -> C W') := fun W W' h h2 => by rw [hC] at h ⊢; exact h.trans (h2.mono h.size)
 have FB : Hid (∀ W, C W -> W.rangeAt g3 0 (bC smB a c)) := fun W h => (HB.out.below (CO.out W h) HB.out.lt).all
 have FE : Hid (∀ W, C W -> EsM W a smB.es) := fun W h => HE.out.below (CO.out W h)
 clear hC
 go_wp2_with fail
 refine region_calm C 16 (by kernel_rfl) ?_
 have hCp := cpo C0.out
 generalize ({ w5 with drawn := w5.drawn + 1 } : World) = y0 at *
 refine seg 10 [0, 1, 2, 3, 4, 5, 6] rfl (by kernel_rfl) whole_blind (C0.out) (by kernel_rfl) ?_
 change wpQuiet _ _ _ _ (_ :: _ :: _ :: _ :: _ :: _ :: _ :: []) _
 repeat (first
  | go_big_quiet_skip
  | (go_big_quiet_want
     first
     | (go_big_quiet_op
        go_big_quiet_on)))
 refine wpQuiet_nil ?_
 refine seg 9 [7] rfl (by kernel_rfl) whole_blind (C0.out) (by kernel_rfl) ?_
 change wpQuiet _ _ _ _ (_ :: []) _
 repeat (first
  | go_big_quiet_skip
  | (go_big_quiet_want
     first
     | (refine q_load 26 (.tmp 3) rfl g3 0 rfl (bC smB a c) _ FB.out Tryz.underlying26 rfl (sB (b := smB) zr_len _ _) ?_
        simp only [Act.put, pu]
        go_big_quiet_on)
     | (go_big_quiet_op
        go_big_quiet_on)))
 refine wpQuiet_nil ?_
 refine lone_do (i := 8) 8 rfl (by kernel_rfl) rfl (by rfl) ?_
 intro K hK
 refine oper_call 23 _ _ rfl #[] (by rw [List.map_toArray]; rfl) (enters Tryz.func23 (by kernel_rfl) rfl) (fun v w' => ∃ g, v = .agg (bC smB (some ⟨g, 0, none⟩) 1).toArray /\ Hid (EsM w' (some ⟨g, 0, none⟩) smB.es /\ Below y0.heap.size y0 w')) ((small_any y0).mono (by rintro e w' ⟨g, rfl, h⟩; exact ⟨_, rfl, g, rfl, h⟩)) ?_
 rintro v y1 ⟨gs, rfl, HS⟩
 have C1 : Hid (C y1) := CB.out y0 y1 C0.out HS.out.2
 refine hK _ _ (C1.out) ?_
 clear hK K
 simp only [Act.put, pu]
 refine lone_do (i := 9) 7 rfl (by kernel_rfl) rfl (by rfl) ?_
 intro K hK
 refine oper_call 10 _ _ rfl #[.agg (bC smB a c).toArray, .agg (bC smB (some ⟨gs, 0, none⟩) 1).toArray] (by rw [List.map_toArray]; rfl) (enters Tryz.func10 (by kernel_rfl) rfl) (fun v w' => v = .bool true /\ Hid (Below y1.heap.size y1 w')) ((blocks_same smB smB_w a c (some ⟨gs, 0, none⟩) 1 y1 (FE.out _ C1.out) HS.out.1).mono (by rintro e w' ⟨rfl, h⟩; exact ⟨_, rfl, rfl, h⟩)) ?_
 rintro v y2 ⟨rfl, H2⟩
 have C2 : Hid (C y2) := CB.out y1 y2 C1.out H2.out
 clear hCp
 have hCp := cpo C2.out
 refine hK _ _ (C2.out) ?_
 clear hK K
 simp only [Act.put, pu]
 refine seg 4 [10, 11, 12] rfl (by kernel_rfl) whole_blind (C2.out) (by kernel_rfl) ?_
 change wpQuiet _ _ _ _ (_ :: _ :: _ :: []) _
 repeat (first
  | go_big_quiet_skip
  | (go_big_quiet_want
     first
     | (refine q_bd 26 #[] rfl (bC noB none 0) (bd_blk _) ?_
        simp only [Act.put, pu]
        go_big_quiet_on)
     | (go_big_quiet_op
        go_big_quiet_on)))
 refine wpQuiet_nil ?_
 refine lone_do (i := 13) 3 rfl (by kernel_rfl) rfl (by rfl) ?_
 intro K hK
 refine oper_call 24 _ _ rfl #[.agg (bC noB none 0).toArray] (by rw [List.map_toArray]; rfl) (enters Tryz.func24 (by kernel_rfl) rfl) (fun v w' => v = .int .i64 1 /\ Below y2.heap.size y2 w') ((check_any noB w_noB (by simp [noB]) none 0 y2 (.inl rfl)).mono (by rintro e w' ⟨rfl, h⟩; rw [no_chk]; exact ⟨_, rfl, rfl, h⟩)) ?_
 rintro v y3 ⟨rfl, H3⟩
 have C3 : Hid (C y3) := CB.out y2 y3 C2.out H3
 refine hK _ _ (C3.out) ?_
 clear hK K
 simp only [Act.put, pu]
 refine seg 1 [14, 15] rfl (by kernel_rfl) whole_blind (C3.out) (by kernel_rfl) ?_
 change wpQuiet _ _ _ _ (_ :: _ :: []) _
 repeat (first
  | go_big_quiet_skip
  | (go_big_quiet_want
     first
     | (go_big_quiet_op
        go_big_quiet_on)))
 refine wpQuiet_nil ?_
 refine lone_calm (i := 16) 0 rfl (by kernel_rfl) rfl rfl (C3.out) ?_
 repeat (first
  | go_big_quiet_skip
  | (go_big_quiet_want
     first
     | (go_big_quiet_op
        go_big_quiet_on)))
 refine wpQuiet_nil ?_
 refine anyC_done (by kernel_rfl) ⟨rfl, ?_⟩
 have HF : Hid (Below w.heap.size w y3) := HZ.out.trans ((CO.out _ C3.out).mono HZ.out.size)
 clear C0 C1 C2 C3 CO CB FB FE hCp
 go_wp2
 go_ret
 exact ⟨rfl, HF.out⟩
theorem roomy_blk (a0 : Option Addr) (cap : Nat) (l : List Nat) (hn : l.length <= 6000) (w : World) (hc : Byt w a0 l) (hnil : a0 = none -> cap = 0) :
 Calls Tryz.prog 12 #[.slice a0 l.length cap] w fun e w' => ∃ g c, e = .returned (.slice (some ⟨g, 0, none⟩) (l.length + 1) c) /\ w.heap.size <= g /\ l.length + 1 <= c /\ c <= 9223372036854775807 /\ Hid (Cells w' g 0 (l ++ [171]) /\ Below w.heap.size w w') := by
 have b0 : Below w.heap.size w (w.alloc (.cells #[] 5)) := (Below.refl _ _).alloc (Nat.le_refl _) _
 have hc0 := hc.below b0
 have oe := own_empty w _ (Nat.le_refl _)
 clear hc
 go_enter Tryz.func12, Tryz.ntmps12
 go_wp2_with (at_builtin; go_must (refine app_bytes rfl (.tmp 3) (.tmp 4) rfl w.heap.size _ [] rfl oe a0 _ cap l rfl rfl hc0 hnil (by simp; omega) (by simp) ?_))
 intro v1 w1 o1 g1
 have b1 := below_app b0 (by simp) oe g1
 have s1 := b1.size
 clear g1 b0 oe hc0
 go_wp2_with (at_builtin; go_must (refine app_bytes rfl (.tmp 5) (.tmp 6) rfl w.heap.size _ l rfl (o1.alloc _) _ _ _ [171] rfl rfl (byt_lit w1 [171]) (by simp) (by simp; omega) (by simp; omega) ?_))
 intro v2 w2 o2 g2
 have b2 := below_app (b1.alloc s1 _) (by simp; omega) (o1.alloc _) g2
 have s2 := b2.size
 clear g2 b1 s1 o1
 go_wp2_with (at_builtin; go_must (refine app_bytes rfl (.tmp 7) (.tmp 8) rfl w.heap.size _ (l ++ [171]) rfl (o2.alloc _) _ _ _ [171] rfl rfl (byt_lit w2 [171]) (by simp) (by simp; omega) (by simp; omega) ?_))
 intro v3 w3 o3 g3
 have b3 := below_app (b2.alloc s2 _) (by simp; omega) (o2.alloc _) g3
 clear g3 b2 s2 o2
 obtain ⟨g, c, rfl, hg, _, hlc, hcm, hcell⟩ := o3.form (by simp)
 have hle : l.length + 1 <= c := by simp at hlc; omega
 have hle' : (l.length : Int) + 1 <= (c : Int) := by omega
 unfold maxLen at hcm
 have HC : Hid (Cells w3 g 0 (l ++ [171])) := Cells.left (m := [171]) (by simpa using hcell)
 clear hcell o3 hlc
 go_wp2
 go_ret
 exact ⟨g, c, rfl, hg, hle, by omega, HC.out, b3⟩
theorem stands_blk (g c : Nat) (a0 : Option Addr) (cap : Nat) (l : List Nat) (hn : l.length <= 6000) (hb : Oct l) (w : World) (hlc : l.length + 1 <= c) (hg : Cells w g 0 (l ++ [171])) (hc : Byt w a0 l) :
 Calls Tryz.prog 15 #[.slice (some ⟨g, 0, none⟩) (l.length + 1) c, .slice a0 l.length cap] w fun e w' => e = .returned (.bool true) /\ ∃ q, w' = w.drewN q := by
 have hl : (l.length : Int) <= (c : Int) := by omega
 have hat : w.cell? ⟨g, l.length, none⟩ = some (.int .u8 171) := by simpa using Cells.at hg
 have hgl := Cells.left hg
 clear hg
 go_enter Tryz.func15, Tryz.ntmps15
 go_wp2_with (go_at_call 9; go_must (refine (same_any _ _ _ _ l (by omega) _ (.inr ⟨g, 0, rfl, hgl⟩) hc hb).mono ?_; rintro e w' ⟨rfl, q, rfl⟩))
 go_ret
 exact ⟨rfl, q, rfl⟩
theorem bldec_walk (ap : Option Addr) (cp : Nat) (l : List Nat) (hlc : l.length <= cp) (hcm : cp <= 9223372036854775807) (hnil : ap = none -> cp = 0) (hO : Oct l) (W : World) (hB : Byt W ap l) :
 Calls Tryz.prog 4 #[.slice ap l.length cp] W fun e w' => e = .returned (.bool true) /\ Below W.heap.size W w' := by
 have HB : Hid (Byt W ap l) := hB
 have HO : Hid (Oct l) := hO
 have HNl : Hid (ap = none -> cp = 0) := hnil
 clear hB hO hnil
 by_cases hbig : 6000 < l.length
 . have hb : decide ((6000 : Int) < (l.length : Int)) = true := decide_eq_true (by omega)
   go_enter Tryz.func4, Tryz.ntmps4
   go_wp2
   go_ret
   exact ⟨rfl, Below.refl _ _⟩
 have hb : decide ((6000 : Int) < (l.length : Int)) = false := decide_eq_false (by omega)
 have K := roomy_blk ap cp l (by omega) W HB.out HNl.out
 go_enter Tryz.func4, Tryz.ntmps4
 go_wp2_with fail
 refine K.mono ?_
 clear K
 rintro e w1 ⟨g, c, rfl, hg, hgc, hcc, H⟩
 have HC1 : Hid (Cells w1 g 0 (l ++ [171])) := H.out.1
 have HZ1 : Hid (Below W.heap.size W w1) := H.out.2
 have hle : (l.length : Int) <= (c : Int) := by omega
 clear H
 have K := bdec_any w1 (some ⟨g, 0, none⟩) c l (.inr ⟨g, 0, rfl, Cells.left HC1.out⟩) (by intro h; cases h) (by omega) hcc HO.out (by omega) (bsf_short HO.out (by omega))
 go_wp2_with fail
 refine K.mono ?_
 clear K
 rintro e w2 ⟨a2, c2, rfl, H⟩
 have G2 : Hid (Below w1.heap.size w1 w2) := H.out.bl
 have HBW : Hid (BkW (decK l)) := H.out.w
 have HE2 : Hid (EsM w2 a2 (decK l).es) := H.out.esm
 have HQ : Hid (decB l = 0 -> chkB (decK l) = 0 /\ encL (decK l) true = l) := fun h => by
  obtain ⟨_, q2, q3⟩ := decB_zero HO.out (by omega) h
  exact ⟨q2, by unfold encL; rw [if_pos q2, q3]⟩
 have HLk : Hid (∀ e ∈ (decK l).es, Lk e.v) := dec_lk HO.out
 have HDC : Hid (∀ w ap cp, Byt w ap l -> (ap = none -> cp = 0) -> l.length <= cp -> cp <= 9223372036854775807 -> Calls Tryz.prog 14 #[.slice ap l.length cp] w fun e w' => ∃ (a : Option Addr) (c : Nat), e = .returned (.tuple #[.agg (bC (decK l) a c).toArray, .int .i64 (decB l)]) /\ Hid (Below w.heap.size w w' /\ EsM w' a (decK l).es)) := fun w ap cp h1 h2 h3 h4 => (rdec_any w ap cp l h1 h2 h3 h4 HO.out (by omega)).mono fun e w' ⟨a, c, h, q⟩ => ⟨a, c, h, q.out.bl, q.out.esm⟩
 clear H
 obtain ⟨Bd, HBd⟩ : ∃ Bd, Hid (decK l = Bd) := ⟨_, rfl⟩
 obtain ⟨E, HEE⟩ : ∃ E, Hid (decB l = E) := ⟨_, rfl⟩
 rw [HBd.out] at HBW HE2 HQ HLk HDC ⊢
 rw [HEE.out] at HQ HDC ⊢
 have HL : Hid (Bd.pv.length = 32) := HBW.out.pv.1
 have HZ2 : Hid (Below W.heap.size W w2) := HZ1.out.trans (G2.out.mono HZ1.out.size)
 have HC2 : Hid (Cells w2 g 0 (l ++ [171])) := HC1.out.below G2.out
 clear HZ1 HC1 G2 HBd HEE
 go_wp2_with (refine al_zero rfl 26 rfl (bC noB none 0) zBl ?_)
 intro g4 w3 l4 B4 GA
 go_wp2_with (refine st_all rfl 26 (.tmp 4) (.tmp 21) rfl g4 26 (bC noB none 0) (bC Bd a2 c2) rfl rfl B4 (by rw [bC_len HL.out, bC_len zr_len]) (sB HL.out _ _) (bC_one _ _ _) ?_)
 intro w4 B4' GB
 have G4 : Below w2.heap.size w2 w4 := below_new GA l4 GB
 have HZ4 : Hid (Below W.heap.size W w4) := HZ2.out.trans (G4.mono HZ2.out.size)
 have HB4 : Hid (Blk w4 g4 26 (bC Bd a2 c2)) := B4'
 have HE4 : Hid (EsM w4 a2 Bd.es) := HE2.out.below G4
 have HC4 : Hid (Cells w4 g 0 (l ++ [171])) := HC2.out.below G4
 clear GA GB B4 B4' G4 HZ2 HE2 HC2
 have K := HDC.out w4 ap cp (HB.out.below HZ4.out) HNl.out hlc hcm
 clear HDC
 go_wp2_with fail
 refine K.mono ?_
 clear K
 rintro e w5 ⟨a5, c5, rfl, H⟩
 have G5 := H.out.1
 have HE5 : Hid (EsM w5 a5 Bd.es) := H.out.2
 have HZ5 : Hid (Below W.heap.size W w5) := HZ4.out.trans (G5.mono HZ4.out.size)
 have HB5 : Hid (Blk w5 g4 26 (bC Bd a2 c2)) := HB4.out.below G5 HB4.out.lt
 have HE4 : Hid (EsM w5 a2 Bd.es) := HE4.out.below G5
 have HC5 : Hid (Cells w5 g 0 (l ++ [171])) := HC4.out.below G5
 clear H G5 HZ4 HB4 HC4
 go_wp2_with (refine al_zero rfl 26 rfl (bC noB none 0) zBl ?_)
 intro g6 w6 l6 B6 GA
 go_wp2_with (refine st_all rfl 26 (.tmp 6) (.tmp 26) rfl g6 26 (bC noB none 0) (bC Bd a5 c5) rfl rfl B6 (by rw [bC_len HL.out, bC_len zr_len]) (sB HL.out _ _) (bC_one _ _ _) ?_)
 intro w7 B6' GB
 have G7 : Below w5.heap.size w5 w7 := below_new GA l6 GB
 have HZ7 : Hid (Below W.heap.size W w7) := HZ5.out.trans (G7.mono HZ5.out.size)
 have HB4 : Hid (Blk w7 g4 26 (bC Bd a2 c2)) := HB5.out.below G7 HB5.out.lt
 have HB6 : Hid (Blk w7 g6 26 (bC Bd a5 c5)) := B6'
 have HE4 : Hid (EsM w7 a2 Bd.es) := HE4.out.below G7
 have HE6 : Hid (EsM w7 a5 Bd.es) := HE5.out.below G7
 have HC7 : Hid (Cells w7 g 0 (l ++ [171])) := HC5.out.below G7
 clear GA GB B6 B6' G7 HZ5 HE5 HC5 HB5
 have K := blocks_same Bd HBW.out a2 c2 a5 c5 w7 HE4.out HE6.out
 go_wp2_with (first | (refine ld_w (by rfl) 26 (.tmp 4) rfl g4 0 rfl (bC Bd a2 c2) _ HB4.out.all Tryz.underlying26 rfl (sB HL.out _ _) ?_) | (refine ld_w (by rfl) 26 (.tmp 6) rfl g6 0 rfl (bC Bd a5 c5) _ HB6.out.all Tryz.underlying26 rfl (sB HL.out _ _) ?_))
 refine K.mono ?_
 clear K
 rintro e w8 ⟨rfl, H⟩
 have HZ8 : Hid (Below W.heap.size W w8) := HZ7.out.trans (H.out.mono HZ7.out.size)
 have HB4 : Hid (Blk w8 g4 26 (bC Bd a2 c2)) := HB4.out.below H.out HB4.out.lt
 have HE4 : Hid (EsM w8 a2 Bd.es) := HE4.out.below H.out
 have HC8 : Hid (Cells w8 g 0 (l ++ [171])) := HC7.out.below H.out
 clear H HZ7 HB6 HE6 HC7
 have K := stands_blk g c ap cp l (by omega) HO.out w8 hgc HC8.out (HB.out.below HZ8.out)
 go_wp2_with fail
 refine K.mono ?_
 clear K
 rintro e w9 ⟨rfl, q, hq⟩
 have G9 : Below w8.heap.size w8 w9 := by rw [hq]; exact below_drewN (Below.refl _ _) q
 have HZ9 : Hid (Below W.heap.size W w9) := HZ8.out.trans (G9.mono HZ8.out.size)
 have HB4 : Hid (Blk w9 g4 26 (bC Bd a2 c2)) := HB4.out.below G9 HB4.out.lt
 have HE4 : Hid (EsM w9 a2 Bd.es) := HE4.out.below G9
 clear hq G9 HZ8 HC8
 by_cases h0 : E = 0
 case neg =>
  have hb1 : (E != 0) = true := bne_iff_ne.2 h0
  have hb2 : (E == 0) = false := beq_eq_false_iff_ne.2 h0
  have KK := bknown_any w9
  clear HQ
  go_wp2_with fail
  refine KK.mono ?_
  clear KK
  rintro e x1 ⟨rfl, H⟩
  have HF : Hid (Below W.heap.size W x1) := HZ9.out.trans (H.out.mono HZ9.out.size)
  go_wp2
  go_ret
  exact ⟨rfl, HF.out⟩
 subst h0
 obtain ⟨q1, q2⟩ := HQ.out rfl
 have K := enc_any Bd HBW.out HLk.out a2 c2 true w9 HE4.out
 rw [q1, q2] at K
 clear HQ q1 q2
 go_wp2_with (refine ld_w (by rfl) 26 (.tmp 4) rfl g4 0 rfl (bC Bd a2 c2) _ HB4.out.all Tryz.underlying26 rfl (sB HL.out _ _) ?_)
 refine K.mono ?_
 clear K
 rintro e x1 ⟨v, rfl, H⟩
 obtain ⟨ax, cx, rfl, hby, _, _, _⟩ := H.out.1.byt
 have HZx : Hid (Below W.heap.size W x1) := HZ9.out.trans (H.out.2.mono HZ9.out.size)
 have K := same_any ax ap cx cp l (by omega) x1 hby (HB.out.below HZx.out) HO.out
 clear H hby HZ9 HB4 HE4
 go_wp2_with fail
 refine K.mono ?_
 clear K
 rintro e x2 ⟨rfl, q, hq⟩
 have HZ2 : Hid (Below W.heap.size W x2) := by rw [hq]; exact below_drewN HZx.out q
 clear hq HZx
 have KK := bknown_any x2
 go_wp2_with fail
 refine KK.mono ?_
 clear KK
 rintro e x3 ⟨rfl, H⟩
 have HF : Hid (Below W.heap.size W x3) := HZ2.out.trans (H.out.mono HZ2.out.size)
 clear H HZ2
 go_wp2
 go_ret
 exact ⟨rfl, HF.out⟩
theorem bldec_row (ab : Option Addr) (len cb : Nat) (zs : List Int) (W : World) (h : IsRow .u8 W ab len cb zs) (hcm : cb <= 140737488351232) :
 Calls Tryz.prog 4 #[.slice ab len cb] W fun e w' => e = .returned (.bool true) /\ Below W.heap.size W w' := by
 obtain ⟨l, rfl, h1, h2, h3, _⟩ := row_byt h
 refine bldec_walk ab cb l ?_ (by omega) h3 h2 W h1
 rcases h with ⟨_, h, _, _⟩ | ⟨_, _, h, _⟩
 . omega
 . exact h
end Go.Proofs.YtmbglggodifboaaGreat.Sh
