/-
  small: one with a table. · known: there and back. · Two entries: the same or not.
-/
import Derived.Test.YtmbglggodifboabRG48x
namespace Go.Proofs.Ytmbglggodifboab.Sh
open Go Go.RowKit Math Mt
set_option linter.unusedVariables false
set_option linter.unusedSimpArgs false
def smE : En := ⟨5, ⟨#[116]⟩, 1, 0, 0, nv, zr, false, 0, 0⟩
def smB : Bk := ⟨0, 0, 0, zr, [smE]⟩
theorem smE_w : EnW smE := ⟨⟨by decide, by decide⟩, by decide, ⟨by decide, by decide⟩, ⟨by decide, by decide⟩, ⟨by decide, by decide⟩, wf_nv, h32_zr, ⟨by decide, by decide⟩, ⟨by decide, by decide⟩⟩
theorem smB_w : BkW smB := ⟨⟨by decide, by decide⟩, ⟨by decide, by decide⟩, ⟨by decide, by decide⟩, h32_zr, fun e he => by rw [List.mem_singleton.1 he]; exact smE_w, by decide⟩
theorem smB_lk : ∀ e ∈ smB.es, Lk e.v := fun e he => by rw [List.mem_singleton.1 he]; exact lk_nv
theorem bd_sm (a : Act) : Try.prog.built 45 ((#[(0, .const (.int .i64 5)), (2, .const (.int .i64 1)), (1, .const (.string ⟨#[116]⟩))] : Array (Nat × Operand)).map fun p => (p.1, a.eval p.2)).toList = some (eC smE none 0 none 0).toArray := by kernel_rfl
theorem bd_sb (a : Act) (g : Nat) (hx : a.eval (.tmp 2) = .slice (some ⟨g, 0, none⟩) 1 1) : Try.prog.built 26 ((#[(4, .tmp 2)] : Array (Nat × Operand)).map fun p => (p.1, a.eval p.2)).toList = some (bC smB (some ⟨g, 0, none⟩) 1).toArray := by
  simp only [List.map_toArray, List.map_cons, List.map_nil, hx]
  kernel_rfl
set_option maxHeartbeats 400000 in
set_option maxRecDepth 8000 in
theorem small_any (w : World) :
    Calls Try.prog 14 #[] w fun e' w' => ∃ g, e' = .returned (.agg (bC smB (some ⟨g, 0, none⟩) 1).toArray) ∧ Hid (EsM w' (some ⟨g, 0, none⟩) smB.es ∧ Below w.heap.size w w') := by
  go_enter Try.func14, Try.ntmps14
  go_wp2_with (refine al_zero rfl 26 rfl (bC noB none 0) zBl ?_)
  intro g0 w1 l0 B0 G0
  have Z := (Below.refl w.heap.size w).grown G0 (Nat.le_refl _) (by simp)
  clear G0
  have B0' := B0.alloc (.cells (eC smE none 0 none 0).toArray 45)
  have HZ : Hid (Below w.heap.size w (w1.alloc (.cells (eC smE none 0 none 0).toArray 45))) := Z.alloc Z.size _
  have HR : Hid ((w1.alloc (.cells (eC smE none 0 none 0).toArray 45)).rangeAt w1.heap.size 0 (eC smE none 0 none 0)) := fun j u hj => by
    rw [Nat.zero_add, World.cell?_alloc_new]
    show (eC smE none 0 none 0).toArray[j]? = some u
    rw [List.getElem?_toArray]
    exact hj
  have hb0 := B0.lt
  clear Z B0
  go_wp2_with (first
    | (refine bd_w (by rfl) 45 _ rfl (eC smE none 0 none 0) (bd_sm _) ?_)
    | (refine bs_en rfl (.tmp 1) rfl (eC smE none 0 none 0) rfl rfl ?_)
    | (refine bd_w (by rfl) 26 _ rfl (bC smB (some ⟨w1.heap.size, 0, none⟩) 1) (bd_sb _ _ rfl) ?_)
    | (refine st_all rfl 26 (.tmp 0) (.tmp 3) rfl g0 26 (bC noB none 0) (bC smB (some ⟨w1.heap.size, 0, none⟩) 1) rfl rfl B0' rfl (sB zr_len _ _) (bC_one _ _ _) ?_))
  intro wz BZ G0
  have HF : Hid (EsM wz (some ⟨w1.heap.size, 0, none⟩) smB.es ∧ Below w.heap.size w wz) := by
    refine ⟨.inr ⟨w1.heap.size, 0, rfl, fun i e he => ?_⟩, Sh.grown_below HZ.out G0 HZ.out.size l0⟩
    obtain ⟨hi, he'⟩ := List.getElem?_eq_some_iff.1 he
    have hi0 : i = 0 := by have : i < 1 := hi; omega
    subst hi0
    obtain rfl : smE = e := he'
    refine ⟨none, 0, none, 0, fun j u hj => ?_, (vl_lf wz 0 0 0 em).vl⟩
    exact G0.cell (HR.out j u hj) (by intro e; have := Option.some.inj e; simp at this; omega)
  clear G0 B0' HR HZ
  go_wp2
  (try simp only [Exit.inBlock, Exit.then])
  refine bodyPost_ret (Sh.res_row rfl _ g0 26 _ _ rfl BZ Try.underlying26 rfl (sB zr_len _ _)) rfl ⟨w1.heap.size, rfl, HF.out⟩
end Go.Proofs.Ytmbglggodifboab.Sh
namespace Go.Proofs.Ytmbglggodifboab.Sh
open Go Go.RowKit Math Mt
set_option linter.unusedVariables false
set_option linter.unusedSimpArgs false
theorem sm_chk : chkB smB = 0 := by kernel_rfl
theorem no_chk : chkB noB = 1 := by kernel_rfl
theorem sm_enc : encL smB true = blkB smB true := by unfold encL; rw [if_pos sm_chk]
theorem sm_len : (blkB smB true).length ≤ 65536 := of_decide_eq_true (by kernel_rfl)
theorem sm_oct : Oct (blkB smB true) := blk_oct smB_w (chk_zero sm_chk).2.1 true
theorem sm_dec : decB (blkB smB true) = 0 ∧ decK (blkB smB true) = smB := dec_bk smB_w sm_chk
set_option maxHeartbeats 1000000 in
set_option maxRecDepth 8000 in
theorem bknown_any (w : World) : Calls Try.prog 7 #[] w fun e' w' => e' = .returned (.bool true) ∧ Hid (Below w.heap.size w w') := by
  go_enter Try.func7, Try.ntmps7
  have K := small_any w
  go_wp2_with fail
  refine K.mono ?_
  clear K
  rintro e w1 ⟨g, rfl, H⟩
  have Z := H.out.2
  have K := enc_any smB smB_w smB_lk (some ⟨g, 0, none⟩) 1 true w1 H.out.1
  rw [sm_chk, sm_enc] at K
  clear H
  obtain ⟨L, hL⟩ : ∃ L, Hid (blkB smB true = L) := ⟨_, rfl⟩
  rw [hL.out] at K
  go_wp2_with fail
  refine K.mono ?_
  clear K
  rintro e w2 ⟨v, rfl, H⟩
  have Z := Z.trans (H.out.2.mono Z.size)
  have hO := H.out.1
  clear H
  obtain ⟨ax, cx, rfl, hB, hnil, hc, hcm⟩ := hO.byt
  unfold maxLen at hcm
  have HO : Hid (Own w2 w1.heap.size (.slice ax L.length cx) L) := hO
  have K := bdec_any w2 ax cx L hB hnil (by omega) (by omega) (by rw [← hL.out]; exact sm_oct) (by rw [← hL.out]; have := sm_len; omega) (bsf_short (by rw [← hL.out]; exact sm_oct) (by rw [← hL.out]; exact sm_len))
  have e1 : decB L = 0 := by rw [← hL.out]; exact sm_dec.1
  have e2 : decK L = smB := by rw [← hL.out]; exact sm_dec.2
  rw [e1, e2] at K
  clear hB hnil hc hO HO e1
  go_wp2_with fail
  refine K.mono ?_
  clear K
  rintro e w3 ⟨a, c, rfl, H⟩
  have Z := Z.trans (H.out.bl.mono Z.size)
  have HE : Hid (EsM w3 a smB.es) := by have h := H.out.esm; rw [e2] at h; exact h
  clear H e2 hL
  go_wp2_with (refine al_zero rfl 26 rfl (bC noB none 0) zBl ?_)
  intro g3 w4 l3 B3 G0
  have Z6 := (Below.refl w3.heap.size w3).grown G0 (Nat.le_refl _) (by simp)
  clear G0
  go_wp2_with (refine st_all rfl 26 (.tmp 3) (.tmp 13) rfl g3 26 (bC noB none 0) (bC smB a c) rfl rfl B3 (by rw [bC_len (b := smB) zr_len, bC_len zr_len]) (sB (b := smB) zr_len _ _) (bC_one _ _ _) ?_)
  intro w5 B3' G0
  have Z7 := Sh.grown_below Z6 G0 Z6.size l3
  have HE : Hid (EsM w5 a smB.es) := HE.out.below Z7
  have HZ : Hid (Below w.heap.size w w5) := Z.trans (Z7.mono Z.size)
  have HB : Hid (Blk w5 g3 26 (bC smB a c)) := B3'
  clear B3' G0 Z6 Z7 Z B3
  obtain ⟨C, hC⟩ : ∃ C : World → Prop, C = fun W => Below w5.heap.size w5 W := ⟨_, rfl⟩
  have C0 : Hid (C { w5 with drawn := w5.drawn + 1 }) := by rw [hC]; exact Below.drew (Below.refl _ _)
  have CO : Hid (∀ W, C W → Below w5.heap.size w5 W) := fun W h => by rw [hC] at h; exact h
  have CB : Hid (∀ W W', C W → Below W.heap.size W W' → C W') := fun W W' h h2 => by rw [hC] at h ⊢; exact h.trans (h2.mono h.size)
  have FB : Hid (∀ W, C W → W.rangeAt g3 0 (bC smB a c)) := fun W h => (HB.out.below (CO.out W h) HB.out.lt).all
  have FE : Hid (∀ W, C W → EsM W a smB.es) := fun W h => HE.out.below (CO.out W h)
  clear hC
  go_wp2_with fail
  refine region_calm C 16 (by kernel_rfl) ?_
  have hCp : ∀ p : Prop, (∀ W, C W → p) ↔ p := fun p => ⟨fun h => h _ C0.out, fun h _ _ => h⟩
  generalize ({ w5 with drawn := w5.drawn + 1 } : World) = y0 at *
  refine seg 10 [0, 1, 2, 3, 4, 5, 6] rfl (by kernel_rfl) whole_blind (C0.out) (by kernel_rfl) ?_
  change wpQuiet _ _ _ _ (_ :: _ :: _ :: _ :: _ :: _ :: _ :: []) _
  repeat (first
    | go_big_quiet_skip
    | (go_big_quiet_want
       first
       | (go_big_quiet_op
          go_big_quiet_on)))
  refine wpQuiet_nil ?_
  refine seg 9 [7] rfl (by kernel_rfl) whole_blind (C0.out) (by kernel_rfl) ?_
  change wpQuiet _ _ _ _ (_ :: []) _
  repeat (first
    | go_big_quiet_skip
    | (go_big_quiet_want
       first
       | (refine q_load 26 (.tmp 3) rfl g3 0 rfl (bC smB a c) _ FB.out Try.underlying26 rfl (sB (b := smB) zr_len _ _) ?_
          simp only [Act.put, List.setIfInBounds_toArray, List.set_cons_zero, List.set_cons_succ]
          go_big_quiet_on)
       | (go_big_quiet_op
          go_big_quiet_on)))
  refine wpQuiet_nil ?_
  refine lone_do (i := 8) 8 rfl (by kernel_rfl) rfl (by rfl) ?_
  intro K hK
  refine oper_call 14 _ _ rfl #[] (by rw [List.map_toArray]; rfl) (enters Try.func14 (by kernel_rfl) rfl) (fun v w' => ∃ g, v = .agg (bC smB (some ⟨g, 0, none⟩) 1).toArray ∧ Hid (EsM w' (some ⟨g, 0, none⟩) smB.es ∧ Below y0.heap.size y0 w')) ((small_any y0).mono (by rintro e w' ⟨g, rfl, h⟩; exact ⟨_, rfl, g, rfl, h⟩)) ?_
  rintro v y1 ⟨gs, rfl, HS⟩
  have C1 : Hid (C y1) := CB.out y0 y1 C0.out HS.out.2
  refine hK _ _ (C1.out) ?_
  clear hK K
  simp only [Act.put, List.setIfInBounds_toArray, List.set_cons_zero, List.set_cons_succ]
  refine lone_do (i := 9) 7 rfl (by kernel_rfl) rfl (by rfl) ?_
  intro K hK
  refine oper_call 9 _ _ rfl #[.agg (bC smB a c).toArray, .agg (bC smB (some ⟨gs, 0, none⟩) 1).toArray] (by rw [List.map_toArray]; rfl) (enters Try.func9 (by kernel_rfl) rfl) (fun v w' => v = .bool true ∧ Hid (Below y1.heap.size y1 w')) ((blocks_same smB smB_w a c (some ⟨gs, 0, none⟩) 1 y1 (FE.out _ C1.out) HS.out.1).mono (by rintro e w' ⟨rfl, h⟩; exact ⟨_, rfl, rfl, h⟩)) ?_
  rintro v y2 ⟨rfl, H2⟩
  have C2 : Hid (C y2) := CB.out y1 y2 C1.out H2.out
  clear hCp
  have hCp : ∀ p : Prop, (∀ W, C W → p) ↔ p := fun p => ⟨fun h => h _ C2.out, fun h _ _ => h⟩
  refine hK _ _ (C2.out) ?_
  clear hK K
  simp only [Act.put, List.setIfInBounds_toArray, List.set_cons_zero, List.set_cons_succ]
  refine seg 4 [10, 11, 12] rfl (by kernel_rfl) whole_blind (C2.out) (by kernel_rfl) ?_
  change wpQuiet _ _ _ _ (_ :: _ :: _ :: []) _
  repeat (first
    | go_big_quiet_skip
    | (go_big_quiet_want
       first
       | (refine q_bd 26 #[] rfl (bC noB none 0) (bd_blk _) ?_
          simp only [Act.put, List.setIfInBounds_toArray, List.set_cons_zero, List.set_cons_succ]
          go_big_quiet_on)
       | (go_big_quiet_op
          go_big_quiet_on)))
  refine wpQuiet_nil ?_
  refine lone_do (i := 13) 3 rfl (by kernel_rfl) rfl (by rfl) ?_
  intro K hK
  refine oper_call 15 _ _ rfl #[.agg (bC noB none 0).toArray] (by rw [List.map_toArray]; rfl) (enters Try.func15 (by kernel_rfl) rfl) (fun v w' => v = .int .i64 1 ∧ Below y2.heap.size y2 w') ((check_any noB w_noB (by simp [noB]) none 0 y2 (.inl rfl)).mono (by rintro e w' ⟨rfl, h⟩; rw [no_chk]; exact ⟨_, rfl, rfl, h⟩)) ?_
  rintro v y3 ⟨rfl, H3⟩
  have C3 : Hid (C y3) := CB.out y2 y3 C2.out H3
  refine hK _ _ (C3.out) ?_
  clear hK K
  simp only [Act.put, List.setIfInBounds_toArray, List.set_cons_zero, List.set_cons_succ]
  refine seg 1 [14, 15] rfl (by kernel_rfl) whole_blind (C3.out) (by kernel_rfl) ?_
  change wpQuiet _ _ _ _ (_ :: _ :: []) _
  repeat (first
    | go_big_quiet_skip
    | (go_big_quiet_want
       first
       | (go_big_quiet_op
          go_big_quiet_on)))
  refine wpQuiet_nil ?_
  refine lone_calm (i := 16) 0 rfl (by kernel_rfl) rfl rfl (C3.out) ?_
  repeat (first
    | go_big_quiet_skip
    | (go_big_quiet_want
       first
       | (go_big_quiet_op
          go_big_quiet_on)))
  refine wpQuiet_nil ?_
  refine anyC_done (by kernel_rfl) ⟨rfl, ?_⟩
  have HF : Hid (Below w.heap.size w y3) := HZ.out.trans ((CO.out _ C3.out).mono HZ.out.size)
  clear C0 C1 C2 C3 CO CB FB FE hCp
  go_wp2
  go_ret
  exact ⟨rfl, HF.out⟩
end Go.Proofs.Ytmbglggodifboab.Sh
namespace Go.Proofs.Ytmbglggodifboab.Sh
open Go Go.RowKit Math Mt
set_option linter.unusedVariables false
set_option linter.unusedSimpArgs false
theorem en_ext {e f : En} (h1 : e.k = f.k) (h2 : e.t = f.t) (h3 : e.tb = f.tb) (h4 : e.dc = f.dc) (h5 : e.vr = f.vr) (h6 : e.v = f.v) (h7 : e.h = f.h) (h8 : e.g = f.g) (h9 : e.ab = f.ab) (h10 : e.ae = f.ae) : e = f := by
  cases e; cases f
  simp only at h1 h2 h3 h4 h5 h6 h7 h8 h9 h10
  subst h1 h2 h3 h4 h5 h6 h7 h8 h9 h10
  rfl
theorem off_of {α : Type} {x y : α} {t : Bool} (h : t = true ↔ x = y) (hn : x ≠ y) : t = false := by
  cases t
  · rfl
  · exact absurd (h.1 rfl) hn
theorem bstr {a b : ByteArray} (h : ¬ a = b) : ¬ a.toList = b.toList := fun q => h (by
  rw [ByteArray.toList_eq, ByteArray.toList_eq] at q
  have q2 := Array.toList_inj.1 q
  cases a; cases b
  simp only at q2
  rw [q2])
theorem gstr {a b : Bool} (h : ¬ a = b) : (a = true ∧ b = false) ∨ (a = false ∧ b = true) := by cases a <;> cases b <;> simp_all
set_option maxHeartbeats 4000000 in
set_option maxRecDepth 8000 in
theorem ent_eq (e f : En) (he : EnW e) (hf : EnW f) (na : Option Addr) (nc : Nat) (ka : Option Addr) (kc : Nat) (na2 : Option Addr) (nc2 : Nat) (ka2 : Option Addr) (kc2 : Nat) (w : World) (hv : Vl w e.v na nc ka kc) (hv2 : Vl w f.v na2 nc2 ka2 kc2) (t : Bool) (ht : Hid (t = true ↔ e = f)) :
    Calls Try.prog 24 #[.agg (eC e na nc ka kc).toArray, .agg (eC f na2 nc2 ka2 kc2).toArray] w fun e' w' => e' = .returned (.bool t) ∧ Hid (Below w.heap.size w w') := by
  have HL : Hid (e.h.length = 32) := he.h.1
  have HL2 : Hid (f.h.length = 32) := hf.h.1
  have HE : Hid (EnW e) := he
  have HE2 : Hid (EnW f) := hf
  have HV : Hid (Vl w e.v na nc ka kc) := hv
  have HV2 : Hid (Vl w f.v na2 nc2 ka2 kc2) := hv2
  obtain ⟨th, hth⟩ : ∃ th, Hid (decide (e.h = f.h) = th) := ⟨_, rfl⟩
  have HH : Hid (∀ w, (Op.equalIn 10000 23 (.agg (nums .u8 e.h).toArray) (.agg (nums .u8 f.h).toArray)).run Try.prog w = .ok th w) := fun w => by rw [← hth.out]; exact eq_hash he.h hf.h w
  clear he hf hv hv2
  go_enter Try.func24, Try.ntmps24
  go_wp2_with (refine al_box rfl 45 (.tmp 0) rfl (eC e na nc ka kc) rfl ?_)
  intro g2 w1 l1 B2 G0
  have Z := (Below.refl w.heap.size w).grown G0 (Nat.le_refl _) (by simp)
  clear G0
  go_wp2_with (refine al_box rfl 45 (.tmp 1) rfl (eC f na2 nc2 ka2 kc2) rfl ?_)
  intro g3 w2 l3 B3 G0
  have Z := Z.grown G0 Z.size (by simp)
  have B2 := B2.kept G0 (by simp)
  clear G0
  obtain ⟨a1, a2, a3, a4, a5, a6, a7, a8, a9, a10⟩ := enF_of HL.out B2.all
  obtain ⟨b1, b2, b3, b4, b5, b6, b7, b8, b9, b10⟩ := enF_of HL2.out B3.all
  simp only [Nat.zero_add] at a1 a2 a3 a4 a5 a6 a7 a8 a9 a10 b1 b2 b3 b4 b5 b6 b7 b8 b9 b10
  have A6 : Hid (w2.rangeAt g2 5 (six e.v.1 na nc ka e.v.2.list.length kc)) := a6
  have A7 : Hid (w2.rangeAt g2 11 (nums .u8 e.h)) := a7
  have C6 : Hid (w2.rangeAt g3 5 (six f.v.1 na2 nc2 ka2 f.v.2.list.length kc2)) := b6
  have C7 : Hid (w2.rangeAt g3 11 (nums .u8 f.h)) := b7
  have hHH := HH.out w2
  have HZ : Hid (Below w.heap.size w w2) := Z
  clear a6 a7 b6 b7 B2 B3
  by_cases hk : e.k = f.k
  case neg =>
    obtain rfl : t = false := off_of ht.out (fun q => hk (by rw [q]))
    have hb : (e.k == f.k) = false := beq_eq_false_iff_ne.2 hk
    go_wp2
    go_ret
    exact ⟨rfl, HZ.out⟩
  have Hk : Hid (e.k = f.k) := hk
  rw [← hk] at b1
  clear hk
  by_cases hxt : e.t = f.t
  case neg =>
    obtain rfl : t = false := off_of ht.out (fun q => hxt (by rw [q]))
    have hb : ¬ e.t.toList = f.t.toList := bstr hxt
    clear hxt
    go_wp2
    go_ret
    exact ⟨rfl, HZ.out⟩
  have Hxt : Hid (e.t = f.t) := hxt
  rw [← hxt] at b2
  clear hxt
  by_cases htb : e.tb = f.tb
  case neg =>
    obtain rfl : t = false := off_of ht.out (fun q => htb (by rw [q]))
    have hb : (e.tb == f.tb) = false := beq_eq_false_iff_ne.2 htb
    go_wp2
    go_ret
    exact ⟨rfl, HZ.out⟩
  have Htb : Hid (e.tb = f.tb) := htb
  rw [← htb] at b3
  clear htb
  by_cases hdc : e.dc = f.dc
  case neg =>
    obtain rfl : t = false := off_of ht.out (fun q => hdc (by rw [q]))
    have hb : (e.dc == f.dc) = false := beq_eq_false_iff_ne.2 hdc
    go_wp2
    go_ret
    exact ⟨rfl, HZ.out⟩
  have Hdc : Hid (e.dc = f.dc) := hdc
  rw [← hdc] at b4
  clear hdc
  by_cases hvr : e.vr = f.vr
  case neg =>
    obtain rfl : t = false := off_of ht.out (fun q => hvr (by rw [q]))
    have hb : (e.vr == f.vr) = false := beq_eq_false_iff_ne.2 hvr
    go_wp2
    go_ret
    exact ⟨rfl, HZ.out⟩
  have Hvr : Hid (e.vr = f.vr) := hvr
  rw [← hvr] at b5
  clear hvr
  by_cases hh : e.h = f.h
  case neg =>
    obtain rfl : th = false := by rw [← hth.out]; exact decide_eq_false hh
    obtain rfl : t = false := off_of ht.out (fun q => hh (by rw [q]))
    clear hh
    go_wp2_with (first
      | (refine ld_w (by rfl) 23 (.tmp 39) rfl g2 11 rfl (nums .u8 e.h) _ A7.out Try.underlying23 rfl (sH HL.out) ?_)
      | (refine ld_w (by rfl) 23 (.tmp 41) rfl g3 11 rfl (nums .u8 f.h) _ C7.out Try.underlying23 rfl (sH HL2.out) ?_))
    go_ret
    exact ⟨rfl, HZ.out⟩
  obtain rfl : th = true := by rw [← hth.out]; exact decide_eq_true hh
  have HHh : Hid (e.h = f.h) := hh
  clear hh
  by_cases hg : e.g = f.g
  case neg =>
    obtain rfl : t = false := off_of ht.out (fun q => hg (by rw [q]))
    rcases gstr hg with ⟨p, q⟩ | ⟨p, q⟩
    · rw [p] at a8; rw [q] at b8; clear hg p q
      go_wp2_with (first
        | (refine ld_w (by rfl) 23 (.tmp 39) rfl g2 11 rfl (nums .u8 e.h) _ A7.out Try.underlying23 rfl (sH HL.out) ?_)
        | (refine ld_w (by rfl) 23 (.tmp 41) rfl g3 11 rfl (nums .u8 f.h) _ C7.out Try.underlying23 rfl (sH HL2.out) ?_))
      go_ret
      exact ⟨rfl, HZ.out⟩
    · rw [p] at a8; rw [q] at b8; clear hg p q
      go_wp2_with (first
        | (refine ld_w (by rfl) 23 (.tmp 39) rfl g2 11 rfl (nums .u8 e.h) _ A7.out Try.underlying23 rfl (sH HL.out) ?_)
        | (refine ld_w (by rfl) 23 (.tmp 41) rfl g3 11 rfl (nums .u8 f.h) _ C7.out Try.underlying23 rfl (sH HL2.out) ?_))
      go_ret
      exact ⟨rfl, HZ.out⟩
  have Hg : Hid (e.g = f.g) := hg
  rw [← hg] at b8
  clear hg
  by_cases hab : e.ab = f.ab
  case neg =>
    obtain rfl : t = false := off_of ht.out (fun q => hab (by rw [q]))
    have hb : (e.ab == f.ab) = false := beq_eq_false_iff_ne.2 hab
    go_wp2_with (first
      | (refine ld_w (by rfl) 23 (.tmp 39) rfl g2 11 rfl (nums .u8 e.h) _ A7.out Try.underlying23 rfl (sH HL.out) ?_)
      | (refine ld_w (by rfl) 23 (.tmp 41) rfl g3 11 rfl (nums .u8 f.h) _ C7.out Try.underlying23 rfl (sH HL2.out) ?_))
    go_ret
    exact ⟨rfl, HZ.out⟩
  have Hab : Hid (e.ab = f.ab) := hab
  rw [← hab] at b9
  clear hab
  by_cases hae : e.ae = f.ae
  case neg =>
    obtain rfl : t = false := off_of ht.out (fun q => hae (by rw [q]))
    have hb : (e.ae == f.ae) = false := beq_eq_false_iff_ne.2 hae
    go_wp2_with (first
      | (refine ld_w (by rfl) 23 (.tmp 39) rfl g2 11 rfl (nums .u8 e.h) _ A7.out Try.underlying23 rfl (sH HL.out) ?_)
      | (refine ld_w (by rfl) 23 (.tmp 41) rfl g3 11 rfl (nums .u8 f.h) _ C7.out Try.underlying23 rfl (sH HL2.out) ?_))
    go_ret
    exact ⟨rfl, HZ.out⟩
  have Hae : Hid (e.ae = f.ae) := hae
  rw [← hae] at b10
  clear hae
  have KE := equal_any (wt e.v) e.v (Nat.le_refl _) HE.out.v f.v HE2.out.v na nc ka kc na2 nc2 ka2 kc2 w2 (HV.out.below Z) (HV2.out.below Z)
  go_wp2_with (first
    | (refine ld_w (by rfl) 23 (.tmp 39) rfl g2 11 rfl (nums .u8 e.h) _ A7.out Try.underlying23 rfl (sH HL.out) ?_)
    | (refine ld_w (by rfl) 23 (.tmp 41) rfl g3 11 rfl (nums .u8 f.h) _ C7.out Try.underlying23 rfl (sH HL2.out) ?_)
    | (refine ld_w (by rfl) 41 (.tmp 60) rfl g2 5 rfl (six e.v.1 na nc ka e.v.2.list.length kc) _ A6.out Try.underlying41 rfl (szV _ _ _ _ _ _) ?_)
    | (refine ld_w (by rfl) 41 (.tmp 62) rfl g3 5 rfl (six f.v.1 na2 nc2 ka2 f.v.2.list.length kc2) _ C6.out Try.underlying41 rfl (szV _ _ _ _ _ _) ?_))
  refine KE.mono ?_
  rintro e' w3 ⟨t2, rfl, H⟩
  obtain rfl : t = t2 := by
    have h1 : t = true ↔ t2 = true := by
      rw [ht.out, H.out.1]
      refine ⟨fun q => by rw [q], fun hv => ?_⟩
      exact en_ext Hk.out Hxt.out Htb.out Hdc.out Hvr.out hv HHh.out Hg.out Hab.out Hae.out
    exact Bool.eq_iff_iff.2 h1
  have HF : Hid (Below w.heap.size w w3) := Z.trans (H.out.2.mono Z.size)
  clear KE H Z A6 A7 C6 C7 HV HV2 hHH a1 a2 a3 a4 a5 a8 a9 a10 b1 b2 b3 b4 b5 b8 b9 b10
  go_wp2
  go_ret
  exact ⟨rfl, HF.out⟩
set_option maxHeartbeats 400000 in
set_option maxRecDepth 8000 in
theorem entries_eq (e f : En) (he : EnW e) (hf : EnW f) (na : Option Addr) (nc : Nat) (ka : Option Addr) (kc : Nat) (na2 : Option Addr) (nc2 : Nat) (ka2 : Option Addr) (kc2 : Nat) (w : World) (hv : Vl w e.v na nc ka kc) (hv2 : Vl w f.v na2 nc2 ka2 kc2) (t : Bool) (ht : Hid (t = true ↔ e = f)) :
    Calls Try.prog 16 #[.agg (eC e na nc ka kc).toArray, .agg (eC f na2 nc2 ka2 kc2).toArray] w fun e' w' => e' = .returned (.bool t) ∧ Hid (Below w.heap.size w w') := by
  have HL : Hid (e.h.length = 32) := he.h.1
  have HL2 : Hid (f.h.length = 32) := hf.h.1
  have HE : Hid (EnW e) := he
  have HE2 : Hid (EnW f) := hf
  have HV : Hid (Vl w e.v na nc ka kc) := hv
  have HV2 : Hid (Vl w f.v na2 nc2 ka2 kc2) := hv2
  clear he hf hv hv2
  go_enter Try.func16, Try.ntmps16
  go_wp2_with (refine al_box rfl 45 (.tmp 0) rfl (eC e na nc ka kc) rfl ?_)
  intro g2 w1 l1 B2 G0
  have Z := (Below.refl w.heap.size w).grown G0 (Nat.le_refl _) (by simp)
  clear G0
  go_wp2_with (refine al_box rfl 45 (.tmp 1) rfl (eC f na2 nc2 ka2 kc2) rfl ?_)
  intro g3 w2 l3 B3 G0
  have Z := Z.grown G0 Z.size (by simp)
  have B2 := B2.kept G0 (by simp)
  clear G0
  have KE := ent_eq e f HE.out HE2.out na nc ka kc na2 nc2 ka2 kc2 w2 (HV.out.below Z) (HV2.out.below Z) t ht
  go_wp2_with (first
    | (refine ld_w (by rfl) 45 (.tmp 2) rfl g2 0 rfl (eC e na nc ka kc) _ B2.all Try.underlying45 rfl (sE HL.out _ _ _ _) ?_)
    | (refine ld_w (by rfl) 45 (.tmp 3) rfl g3 0 rfl (eC f na2 nc2 ka2 kc2) _ B3.all Try.underlying45 rfl (sE HL2.out _ _ _ _) ?_))
  refine KE.mono ?_
  rintro e' w3 ⟨rfl, H⟩
  have HF : Hid (Below w.heap.size w w3) := Z.trans (H.out.mono Z.size)
  clear KE H Z B2 B3
  go_wp2
  go_ret
  exact ⟨rfl, HF.out⟩
end Go.Proofs.Ytmbglggodifboab.Sh
