/-
  The law BlockJoins, walked.
-/
import Derived.Test.YtmbglggodifboaaGreatDoorSG46x
import Derived.Test.YtmbglggodifboaaGreatDoorSG47x
namespace Go.Proofs.YtmbglggodifboaaGreatDoor.Sh
open Go Go.RowKit Math Mt
set_option linter.unusedVariables false
set_option linter.unusedSimpArgs false
theorem q_eqh {C : World → Prop} {a : Act} {o : Oper} {K : Act → Prop} (x y : Operand) (ho : o.op = .binOp .eql 23 x y 23) (l m : List Nat) (t : Bool) (hx : a.eval x = .agg (nums .u8 l).toArray) (hy : a.eval y = .agg (nums .u8 m).toArray) (he : ∀ w, (Op.equalIn 10000 23 (.agg (nums .u8 l).toArray) (.agg (nums .u8 m).toArray)).run Tryz.prog w = .ok t w) (hk : K (a.put o.dst (.bool t))) : o.quiet Tryz.prog a C K :=
  ⟨_, fun w _ => by
    have h2 := he w
    unfold Oper.quietAt execOp
    simp only [ho, hx, hy]
    go_simp, hk⟩
theorem light_lk4 {b : Bk} (hb : BkW b) (h : Light b) : ∀ e ∈ b.es, Lk e.v := fun e he => lk_ws (hb.es e he).v (by have := (h.all e he).1; omega)
set_option maxHeartbeats 1000000 in
set_option maxRecDepth 8000 in
theorem bljoins_walk (b : Bk) (hb : BkW b) (a : Option Addr) (c : Nat) (o : List Nat) (ho : H32 o) (W : World) (hE : EsM W a b.es) (hT : Mer.Tb W) :
    Calls Tryz.prog 4 #[.agg (bC b a c).toArray, .agg (nums .u8 o).toArray] W fun e w' => e = .returned (.bool true) ∧ Below W.heap.size W w' := by
  have HL : Hid (b.pv.length = 32) := hb.pv.1
  have HB : Hid (BkW b) := hb
  have HE : Hid (EsM W a b.es) := hE
  have HT : Hid (Mer.Tb W) := hT
  have HOl : Hid (o.length = 32) := ho.1
  have HOo : Hid (Oct o) := ho.2
  clear hb hE hT ho
  go_enter Tryz.func4, Tryz.ntmps4
  go_wp2_with (refine al_box rfl 26 (.tmp 0) rfl (bC b a c) rfl ?_)
  intro g2 w0 l2 B2 G0
  have Z := (Below.refl W.heap.size W).grown G0 (Nat.le_refl _) (by simp)
  clear G0
  go_wp2_with (refine al_box rfl 23 (.tmp 1) rfl (nums .u8 o) rfl ?_)
  intro g3 w1 l3 B3 G0
  have Z1 := Z.grown G0 Z.size (by simp)
  have B2 := B2.kept G0 (by simp)
  clear G0 Z
  have KH := heavy_any b HB.out a c w1 (HE.out.below Z1)
  go_wp2_with (refine ld_w (by rfl) 26 (.tmp 2) rfl g2 0 rfl (bC b a c) _ B2.all Tryz.underlying26 rfl (sB HL.out _ _) ?_)
  refine KH.mono ?_
  clear KH
  rintro e w2 ⟨t, rfl, H⟩
  have HZ2 : Hid (Below W.heap.size W w2) := Z1.trans (H.out.1.mono Z1.size)
  have HB2 : Hid (Blk w2 g2 26 (bC b a c)) := B2.below H.out.1 B2.lt
  have HB3 : Hid (Blk w2 g3 23 (nums .u8 o)) := B3.below H.out.1 B3.lt
  have HLi : Hid (t = false → Light b) := H.out.2
  clear H Z1 B2 B3 l2 l3
  cases t with
  | true =>
    go_wp2
    go_ret
    exact ⟨rfl, HZ2.out⟩
  | false =>
  have HLk : Hid (∀ e ∈ b.es, Lk e.v) := light_lk4 HB.out (HLi.out rfl)
  clear HLi
  have KE := bhsh_any b HB.out HLk.out a c w2 (HE.out.below HZ2.out) (HT.out.grow HZ2.out)
  have HC0 : Hid (chkB b = 0 → b.es.length ≤ 200 ∧ (∀ e ∈ b.es, Num e) ∧ hsA b = D (1 :: (D (hedB b) ++ eH (b.es.map entB)))) := fun h => ⟨by have := (chk_zero h).1.2.2.2.2; omega, fun e he => (may_form (fst_all (chk_zero h).2.1 e he)).num, by unfold hsA; rw [if_pos h]; rfl⟩
  obtain ⟨E, HEE⟩ : ∃ E, Hid (chkB b = E) := ⟨_, rfl⟩
  rw [HEE.out] at KE HC0
  obtain ⟨hs, Hhs⟩ : ∃ hs, Hid (hsA b = hs) := ⟨_, rfl⟩
  have HH3 : Hid (H32 hs) := by rw [← Hhs.out]; exact hsA32 b
  rw [Hhs.out] at KE HC0
  have HLh : Hid (hs.length = 32) := HH3.out.1
  clear Hhs HEE
  go_wp2_with (refine ld_w (by rfl) 26 (.tmp 2) rfl g2 0 rfl (bC b a c) _ HB2.out.all Tryz.underlying26 rfl (sB HL.out _ _) ?_)
  refine KE.mono ?_
  clear KE
  rintro e w3 ⟨rfl, H⟩
  have HZ3 : Hid (Below W.heap.size W w3) := HZ2.out.trans (H.out.mono HZ2.out.size)
  have HB2 : Hid (Blk w3 g2 26 (bC b a c)) := HB2.out.below H.out HB2.out.lt
  have HB3 : Hid (Blk w3 g3 23 (nums .u8 o)) := HB3.out.below H.out HB3.out.lt
  clear H HZ2
  go_wp2_with (refine al_zero rfl 23 rfl (nums .u8 zr) zHt ?_)
  intro g5 w4 l5 B5 GA
  go_wp2_with (refine st_all rfl 23 (.tmp 5) (.tmp 13) rfl g5 23 (nums .u8 zr) (nums .u8 hs) rfl rfl B5 (by rw [nums_length, nums_length, HLh.out]; rfl) (sH HLh.out) (nums_one _ _) ?_)
  intro w5 B5' GB
  have G5 : Below w3.heap.size w3 w5 := below_new GA l5 GB
  have HZ5 : Hid (Below W.heap.size W w5) := HZ3.out.trans (G5.mono HZ3.out.size)
  have HB2 : Hid (Blk w5 g2 26 (bC b a c)) := HB2.out.below G5 HB2.out.lt
  have HB3 : Hid (Blk w5 g3 23 (nums .u8 o)) := HB3.out.below G5 HB3.out.lt
  have HB5 : Hid (Blk w5 g5 23 (nums .u8 hs)) := B5'
  clear GA GB B5 B5' G5 HZ3 l5
  by_cases h0 : E = 0
  case neg =>
    have hb1 : (E != 0) = true := bne_iff_ne.2 h0
    have hb2 : (E == 0) = false := beq_eq_false_iff_ne.2 h0
    have KK := bknown_any w5
    clear HC0
    go_wp2_with fail
    refine KK.mono ?_
    clear KK
    rintro e x1 ⟨rfl, H⟩
    have HF : Hid (Below W.heap.size W x1) := HZ5.out.trans (H.out.mono HZ5.out.size)
    go_wp2
    go_ret
    exact ⟨rfl, HF.out⟩
  subst h0
  obtain ⟨hn2, hnm, hhs⟩ := HC0.out rfl
  have KL : Hid (∀ V, EsM V a b.es → Calls Tryz.prog 20 #[.agg (bC b a c).toArray] V fun e w' => ∃ v', e = .returned v' ∧ Hid (Mer.OwE (nums .u8) 23 32 w' V.heap.size v' (b.es.map lfE) ∧ Below V.heap.size V w')) := fun V h => rleaves_any b HB.out hn2 hnm a c V h
  obtain ⟨Lf, hLf⟩ : ∃ Lf, Hid (b.es.map lfE = Lf) := ⟨_, rfl⟩
  have HHl : Hid (Mer.Hl Lf) := by rw [← hLf.out]; exact hl_lfE _
  have hll : Lf.length ≤ 200 := by rw [← hLf.out, List.length_map]; exact hn2
  obtain ⟨Rt, hRt⟩ : ∃ Rt, Hid (Mer.Mk.R Mer.nd Mer.em Lf = Rt) := ⟨_, rfl⟩
  have HRt : Hid (H32 Rt) := by rw [← hRt.out]; have h := Mer.R_hh HHl.out; exact ⟨h.1, h.2⟩
  have KR : Hid (∀ al cl V, Lf.length ≤ cl → Mer.ES (nums .u8) 32 V al Lf → Calls Tryz.prog 19 #[.slice al Lf.length cl] V fun e w' => e = .returned (.agg (nums .u8 Rt).toArray) ∧ Below V.heap.size V w') := fun al cl V h1 h2 => by
    have h := Mer.rroot_any al cl Lf V (by omega) HHl.out h1 h2
    rw [hRt.out] at h
    exact h
  obtain ⟨eh, heh⟩ : ∃ eh, Hid (D (2 :: (Rt ++ uv b.es.length)) = eh) := ⟨_, rfl⟩
  have Heh : Hid (H32 eh) := by rw [← heh.out]; exact D32 _
  have KN : Hid (∀ V, Calls Tryz.prog 18 #[.agg (nums .u8 Rt).toArray, .int .i64 (b.es.length : Int)] V fun e w' => e = .returned (.agg (nums .u8 eh).toArray) ∧ Hid (Below V.heap.size V w')) := fun V => by
    have h := rents_any Rt HRt.out b.es.length hn2 V
    rw [heh.out] at h
    exact h
  obtain ⟨hd, hhd⟩ : ∃ hd, Hid (D (hedB b) = hd) := ⟨_, rfl⟩
  have Hhd : Hid (H32 hd) := by rw [← hhd.out]; exact D32 _
  have KD : Hid (∀ V, Calls Tryz.prog 12 #[.agg (bC b a c).toArray] V fun e w' => e = .returned (.agg (nums .u8 hd).toArray) ∧ Hid (Below V.heap.size V w')) := fun V => by
    have h := bhead_any b HB.out a c V
    rw [hhd.out] at h
    exact h
  have hE2 : D (1 :: (hd ++ eh)) = hs := by rw [hhs, ← hhd.out, ← heh.out, ← hRt.out, ← hLf.out, eH_of]
  have KJ : Hid (∀ V, Calls Tryz.prog 21 #[.agg (nums .u8 hd).toArray, .agg (nums .u8 eh).toArray] V fun e w' => e = .returned (.agg (nums .u8 hs).toArray) ∧ Hid (Below V.heap.size V w')) := fun V => by
    have h := bjoin_any hd eh Hhd.out Heh.out V
    rw [hE2] at h
    exact h
  obtain ⟨nh, hnh⟩ : ∃ nh, Hid (D (1 :: (o ++ hs)) = nh) := ⟨_, rfl⟩
  have Hnh : Hid (H32 nh) := by rw [← hnh.out]; exact D32 _
  have KO : Hid (∀ V, Calls Tryz.prog 21 #[.agg (nums .u8 o).toArray, .agg (nums .u8 hs).toArray] V fun e w' => e = .returned (.agg (nums .u8 nh).toArray) ∧ Hid (Below V.heap.size V w')) := fun V => by
    have h := bjoin_any o hs ⟨HOl.out, HOo.out⟩ HH3.out V
    rw [hnh.out] at h
    exact h
  have KQ : Hid (∀ V, Calls Tryz.prog 22 #[.agg (nums .u8 o).toArray, .agg (nums .u8 hs).toArray] V fun e w' => e = .returned (.agg (nums .u8 nh).toArray) ∧ Below V.heap.size V w') := fun V => by
    have h := rnode_any o hs HOl.out HLh.out HOo HH3.out.2 V
    rw [hnh.out] at h
    exact h
  have HEQ1 : Hid (∀ w, (Op.equalIn 10000 23 (.agg (nums .u8 hs).toArray) (.agg (nums .u8 hs).toArray)).run Tryz.prog w = .ok true w) := fun w => by have := eq_hash HH3.out HH3.out w; simpa using this
  have HEQ2 : Hid (∀ w, (Op.equalIn 10000 23 (.agg (nums .u8 nh).toArray) (.agg (nums .u8 nh).toArray)).run Tryz.prog w = .ok true w) := fun w => by have := eq_hash Hnh.out Hnh.out w; simpa using this
  rw [hLf.out] at KL
  have HLe : Hid (eh.length = 32) := Heh.out.1
  have HE5 : Hid (EsM w5 a b.es) := HE.out.below HZ5.out
  clear HC0 hnm hhs hLf hRt heh hhd hnh hE2 HHl HRt Hhd Hnh HT HLk Heh HE
  obtain ⟨C, hC⟩ : ∃ C : World → Prop, C = fun V => Below w5.heap.size w5 V := ⟨_, rfl⟩
  have C0 : Hid (C { w5 with drawn := w5.drawn + 1 }) := by rw [hC]; exact Below.drew (Below.refl _ _)
  have CO : Hid (∀ V, C V → Below w5.heap.size w5 V) := fun V h => by rw [hC] at h; exact h
  have CK : Hid (∀ V V', C V → Below V.heap.size V V' → C V') := fun V V' h1 h2 => by rw [hC] at h1 ⊢; exact h1.trans (h2.mono h1.size)
  have FB : Hid (∀ V, C V → V.rangeAt g2 0 (bC b a c)) := fun V h => (HB2.out.below (CO.out V h) HB2.out.lt).all
  have FE : Hid (∀ V, C V → V.cell? ⟨g2, 35, none⟩ = some (.slice a b.es.length c)) := fun V h => (bkF_of HL.out (HB2.out.below (CO.out V h) HB2.out.lt)).es
  have FM : Hid (∀ V, C V → EsM V a b.es) := fun V h => HE5.out.below (CO.out V h)
  clear hC
  go_wp2
  refine Code.wp_mono (Q := fun ex a' w' => ex = .normal ∧ ∃ (g7 : Nat) (al : Option Addr) (cl : Nat), a' = (⟨#[.agg (bC b a c).toArray, .agg (nums .u8 o).toArray, .pointer (some ⟨g2, 0, none⟩), .pointer (some ⟨g3, 0, none⟩), .bool false, .pointer (some ⟨g5, 0, none⟩), .int .i64 0, .pointer (some ⟨g7, 0, none⟩), .agg (bC b a c).toArray, .bool false, .tuple #[.agg (nums .u8 hs).toArray, .int .i64 0], .agg (bC b a c).toArray, .tuple #[.agg (nums .u8 hs).toArray, .int .i64 0], .agg (nums .u8 hs).toArray, .int .i64 0, .int .i64 0, .bool false, undef, .agg (bC b a c).toArray, .slice al Lf.length cl, .agg (nums .u8 Rt).toArray, .pointer (some ⟨g2, 35, none⟩), .slice a b.es.length c, .int .i64 (b.es.length : Int), .agg (nums .u8 eh).toArray, undef, undef, undef, undef, undef, undef, undef, undef, undef, undef, undef, undef, undef, undef, undef, undef, undef, undef], []⟩ : Act) ∧ Hid (Below w5.heap.size w5 w' ∧ Blk w' g7 23 (nums .u8 eh))) ?_ ?_
  case refine_2 =>
    refine region_calm C 8 (by kernel_rfl) ?_
    have hCp : ∀ p : Prop, (∀ W, C W → p) ↔ p := fun p => ⟨fun h => h _ C0.out, fun h _ _ => h⟩
    generalize ({ w5 with drawn := w5.drawn + 1 } : World) = y0 at *
    refine seg 6 [0, 3, 4] rfl (by kernel_rfl) whole_blind (C0.out) (by kernel_rfl) ?_
    change wpQuiet _ _ _ _ (_ :: _ :: _ :: []) _
    repeat (first
      | go_big_quiet_skip
      | (go_big_quiet_want
         first
         | (refine q_load 26 (.tmp 2) rfl g2 0 rfl (bC b a c) _ FB.out Tryz.underlying26 rfl (sB HL.out _ _) ?_
            simp only [Act.put, List.setIfInBounds_toArray, List.set_cons_zero, List.set_cons_succ]
            go_big_quiet_on)
         | (refine q_cell 24 (.inr (.inr (.inl rfl))) (.tmp 21) rfl g2 35 rfl _ FE.out ?_
            simp only [Act.put, List.setIfInBounds_toArray, List.set_cons_zero, List.set_cons_succ]
            go_big_quiet_on)
         | (go_big_quiet_op
            go_big_quiet_on)))
    refine wpQuiet_nil ?_
    refine len_first (i := 5) 5 rfl (by kernel_rfl) whole_blind (C0.out) (by kernel_rfl) rfl (by rfl) (.tmp 22) 24 rfl 45 Tryz.underlying24 a b.es.length c rfl ?_
    simp only [Act.put, List.setIfInBounds_toArray, List.set_cons_zero, List.set_cons_succ]
    refine two_do (i := 1) (j := 7) 4 rfl (by kernel_rfl) rfl (by rfl) rfl (by rfl) (fun K hK => ?_) (fun K hK => ?_)
    · refine oper_call 20 _ _ rfl #[.agg (bC b a c).toArray] (by rw [List.map_toArray]; rfl) (enters Tryz.func20 (by kernel_rfl) rfl) (fun v w' => Hid (Mer.OwE (nums .u8) 23 32 w' y0.heap.size v Lf ∧ Below y0.heap.size y0 w')) ((KL.out y0 (FM.out _ C0.out)).mono (by rintro e w' ⟨v, rfl, h⟩; exact ⟨_, rfl, h⟩)) ?_
      rintro v19 y1 H1
      obtain ⟨al, cl, rfl, hlc, hnl, hes, _⟩ := H1.out.1.es
      have HS : Hid (Mer.ES (nums .u8) 32 y1 al Lf) := hes
      have C1 : Hid (C y1) := CK.out _ _ C0.out H1.out.2
      refine hK _ _ C1.out ?_
      clear hK K H1 hes hnl
      simp only [Act.put, List.setIfInBounds_toArray, List.set_cons_zero, List.set_cons_succ]
      refine two_do (i := 2) (j := 7) 3 rfl (by kernel_rfl) rfl (by rfl) rfl (by rfl) (fun K hK => ?_) (fun K hK => ?_)
      · refine oper_call 19 _ _ rfl #[.slice al Lf.length cl] (by rw [List.map_toArray]; rfl) (enters Tryz.func19 (by kernel_rfl) rfl) (fun v w' => v = .agg (nums .u8 Rt).toArray ∧ Below y1.heap.size y1 w') ((KR.out al cl y1 hlc HS.out).mono (by rintro e w' ⟨rfl, h⟩; exact ⟨_, rfl, rfl, h⟩)) ?_
        rintro v20 y2 ⟨rfl, H1⟩
        have C2 : Hid (C y2) := CK.out _ _ C1.out H1
        refine hK _ _ C2.out ?_
        clear hK K H1 HS
        simp only [Act.put, List.setIfInBounds_toArray, List.set_cons_zero, List.set_cons_succ]
        refine two_do (i := 6) (j := 7) 2 rfl (by kernel_rfl) rfl (by rfl) rfl (by rfl) (fun K hK => ?_) (fun K hK => ?_)
        · refine oper_call 18 _ _ rfl #[.agg (nums .u8 Rt).toArray, .int .i64 (b.es.length : Int)] (by rw [List.map_toArray]; rfl) (enters Tryz.func18 (by kernel_rfl) rfl) (fun v w' => v = .agg (nums .u8 eh).toArray ∧ Hid (Below y2.heap.size y2 w')) ((KN.out y2).mono (by rintro e w' ⟨rfl, h⟩; exact ⟨_, rfl, rfl, h⟩)) ?_
          rintro v24 y3 ⟨rfl, H1⟩
          have C3 : Hid (C y3) := CK.out _ _ C2.out H1.out
          refine hK _ _ C3.out ?_
          clear hK K H1
          simp only [Act.put, List.setIfInBounds_toArray, List.set_cons_zero, List.set_cons_succ]
          refine lone_do (i := 7) 1 rfl (by kernel_rfl) rfl (by rfl) ?_
          intro K hK
          refine oper_new 23 rfl (nums .u8 zr) zHt ?_
          have ZA : Below y3.heap.size y3 (y3.alloc (.cells (nums .u8 zr).toArray 23)) := (Below.refl _ _).alloc (Nat.le_refl _) _
          have C4 : Hid (C (y3.alloc (.cells (nums .u8 zr).toArray 23))) := CK.out _ _ C3.out ZA
          have B7 : Hid (Blk (y3.alloc (.cells (nums .u8 zr).toArray 23)) y3.heap.size 23 (nums .u8 zr)) := blk_new y3 23 (nums .u8 zr)
          have hg7 : Hid (w5.heap.size ≤ y3.heap.size) := (CO.out _ C3.out).size
          refine hK _ _ C4.out ?_
          clear hK K ZA
          simp only [Act.put, List.setIfInBounds_toArray, List.set_cons_zero, List.set_cons_succ]
          generalize y3.alloc (.cells (nums .u8 zr).toArray 23) = y4 at *
          refine lone_last (i := 8) 0 rfl rfl (by kernel_rfl) rfl (by rfl) ?_
          intro K hK
          refine oper_sta 23 (.tmp 7) (.tmp 24) rfl rfl (y3.heap.size) 23 (nums .u8 zr) (nums .u8 eh) rfl rfl B7.out (by rw [nums_length, nums_length, HLe.out]; rfl) (sH HLe.out) (nums_one _ _) ?_
          intro y9 B9 G9
          have HQ : Hid (Below w5.heap.size w5 y9 ∧ Blk y9 (y3.heap.size) 23 (nums .u8 eh)) := ⟨Sh.grown_below (CO.out _ C4.out) G9 (CO.out _ C4.out).size hg7.out, B9⟩
          refine hK _ _ ?_
          clear hK K
          refine anyC_done (by kernel_rfl) ⟨rfl, ?_⟩
          simp only [Act.put]
          exact ⟨by first | rfl | trivial, y3.heap.size, al, cl, rfl, HQ⟩
        · refine oper_new 23 rfl (nums .u8 zr) zHt ?_
          have ZA : Below y2.heap.size y2 (y2.alloc (.cells (nums .u8 zr).toArray 23)) := (Below.refl _ _).alloc (Nat.le_refl _) _
          have C3 : Hid (C (y2.alloc (.cells (nums .u8 zr).toArray 23))) := CK.out _ _ C2.out ZA
          have B7 : Hid (Blk (y2.alloc (.cells (nums .u8 zr).toArray 23)) y2.heap.size 23 (nums .u8 zr)) := blk_new y2 23 (nums .u8 zr)
          have hg7 : Hid (w5.heap.size ≤ y2.heap.size) := (CO.out _ C2.out).size
          refine hK _ _ C3.out ?_
          clear hK K ZA
          simp only [Act.put, List.setIfInBounds_toArray, List.set_cons_zero, List.set_cons_succ]
          generalize y2.alloc (.cells (nums .u8 zr).toArray 23) = y3 at *
          refine lone_do (i := 6) 1 rfl (by kernel_rfl) rfl (by rfl) ?_
          intro K hK
          refine oper_call 18 _ _ rfl #[.agg (nums .u8 Rt).toArray, .int .i64 (b.es.length : Int)] (by rw [List.map_toArray]; rfl) (enters Tryz.func18 (by kernel_rfl) rfl) (fun v w' => v = .agg (nums .u8 eh).toArray ∧ Hid (Below y3.heap.size y3 w')) ((KN.out y3).mono (by rintro e w' ⟨rfl, h⟩; exact ⟨_, rfl, rfl, h⟩)) ?_
          rintro v24 y4 ⟨rfl, H1⟩
          have C4 : Hid (C y4) := CK.out _ _ C3.out H1.out
          have B7 : Hid (Blk y4 (y2.heap.size) 23 (nums .u8 zr)) := B7.out.below H1.out B7.out.lt
          refine hK _ _ C4.out ?_
          clear hK K H1
          simp only [Act.put, List.setIfInBounds_toArray, List.set_cons_zero, List.set_cons_succ]
          refine lone_last (i := 8) 0 rfl rfl (by kernel_rfl) rfl (by rfl) ?_
          intro K hK
          refine oper_sta 23 (.tmp 7) (.tmp 24) rfl rfl (y2.heap.size) 23 (nums .u8 zr) (nums .u8 eh) rfl rfl B7.out (by rw [nums_length, nums_length, HLe.out]; rfl) (sH HLe.out) (nums_one _ _) ?_
          intro y9 B9 G9
          have HQ : Hid (Below w5.heap.size w5 y9 ∧ Blk y9 (y2.heap.size) 23 (nums .u8 eh)) := ⟨Sh.grown_below (CO.out _ C4.out) G9 (CO.out _ C4.out).size hg7.out, B9⟩
          refine hK _ _ ?_
          clear hK K
          refine anyC_done (by kernel_rfl) ⟨rfl, ?_⟩
          simp only [Act.put]
          exact ⟨by first | rfl | trivial, y2.heap.size, al, cl, rfl, HQ⟩
      · refine oper_new 23 rfl (nums .u8 zr) zHt ?_
        have ZA : Below y1.heap.size y1 (y1.alloc (.cells (nums .u8 zr).toArray 23)) := (Below.refl _ _).alloc (Nat.le_refl _) _
        have C2 : Hid (C (y1.alloc (.cells (nums .u8 zr).toArray 23))) := CK.out _ _ C1.out ZA
        have B7 : Hid (Blk (y1.alloc (.cells (nums .u8 zr).toArray 23)) y1.heap.size 23 (nums .u8 zr)) := blk_new y1 23 (nums .u8 zr)
        have hg7 : Hid (w5.heap.size ≤ y1.heap.size) := (CO.out _ C1.out).size
        have HS : Hid (Mer.ES (nums .u8) 32 (y1.alloc (.cells (nums .u8 zr).toArray 23)) al Lf) := HS.out.below ZA
        refine hK _ _ C2.out ?_
        clear hK K ZA
        simp only [Act.put, List.setIfInBounds_toArray, List.set_cons_zero, List.set_cons_succ]
        generalize y1.alloc (.cells (nums .u8 zr).toArray 23) = y2 at *
        refine lone_do (i := 2) 2 rfl (by kernel_rfl) rfl (by rfl) ?_
        intro K hK
        refine oper_call 19 _ _ rfl #[.slice al Lf.length cl] (by rw [List.map_toArray]; rfl) (enters Tryz.func19 (by kernel_rfl) rfl) (fun v w' => v = .agg (nums .u8 Rt).toArray ∧ Below y2.heap.size y2 w') ((KR.out al cl y2 hlc HS.out).mono (by rintro e w' ⟨rfl, h⟩; exact ⟨_, rfl, rfl, h⟩)) ?_
        rintro v20 y3 ⟨rfl, H1⟩
        have C3 : Hid (C y3) := CK.out _ _ C2.out H1
        have B7 : Hid (Blk y3 (y1.heap.size) 23 (nums .u8 zr)) := B7.out.below H1 B7.out.lt
        refine hK _ _ C3.out ?_
        clear hK K H1 HS
        simp only [Act.put, List.setIfInBounds_toArray, List.set_cons_zero, List.set_cons_succ]
        refine lone_do (i := 6) 1 rfl (by kernel_rfl) rfl (by rfl) ?_
        intro K hK
        refine oper_call 18 _ _ rfl #[.agg (nums .u8 Rt).toArray, .int .i64 (b.es.length : Int)] (by rw [List.map_toArray]; rfl) (enters Tryz.func18 (by kernel_rfl) rfl) (fun v w' => v = .agg (nums .u8 eh).toArray ∧ Hid (Below y3.heap.size y3 w')) ((KN.out y3).mono (by rintro e w' ⟨rfl, h⟩; exact ⟨_, rfl, rfl, h⟩)) ?_
        rintro v24 y4 ⟨rfl, H1⟩
        have C4 : Hid (C y4) := CK.out _ _ C3.out H1.out
        have B7 : Hid (Blk y4 (y1.heap.size) 23 (nums .u8 zr)) := B7.out.below H1.out B7.out.lt
        refine hK _ _ C4.out ?_
        clear hK K H1
        simp only [Act.put, List.setIfInBounds_toArray, List.set_cons_zero, List.set_cons_succ]
        refine lone_last (i := 8) 0 rfl rfl (by kernel_rfl) rfl (by rfl) ?_
        intro K hK
        refine oper_sta 23 (.tmp 7) (.tmp 24) rfl rfl (y1.heap.size) 23 (nums .u8 zr) (nums .u8 eh) rfl rfl B7.out (by rw [nums_length, nums_length, HLe.out]; rfl) (sH HLe.out) (nums_one _ _) ?_
        intro y9 B9 G9
        have HQ : Hid (Below w5.heap.size w5 y9 ∧ Blk y9 (y1.heap.size) 23 (nums .u8 eh)) := ⟨Sh.grown_below (CO.out _ C4.out) G9 (CO.out _ C4.out).size hg7.out, B9⟩
        refine hK _ _ ?_
        clear hK K
        refine anyC_done (by kernel_rfl) ⟨rfl, ?_⟩
        simp only [Act.put]
        exact ⟨by first | rfl | trivial, y1.heap.size, al, cl, rfl, HQ⟩
    · refine oper_new 23 rfl (nums .u8 zr) zHt ?_
      have ZA : Below y0.heap.size y0 (y0.alloc (.cells (nums .u8 zr).toArray 23)) := (Below.refl _ _).alloc (Nat.le_refl _) _
      have C1 : Hid (C (y0.alloc (.cells (nums .u8 zr).toArray 23))) := CK.out _ _ C0.out ZA
      have B7 : Hid (Blk (y0.alloc (.cells (nums .u8 zr).toArray 23)) y0.heap.size 23 (nums .u8 zr)) := blk_new y0 23 (nums .u8 zr)
      have hg7 : Hid (w5.heap.size ≤ y0.heap.size) := (CO.out _ C0.out).size
      refine hK _ _ C1.out ?_
      clear hK K ZA
      simp only [Act.put, List.setIfInBounds_toArray, List.set_cons_zero, List.set_cons_succ]
      generalize y0.alloc (.cells (nums .u8 zr).toArray 23) = y1 at *
      refine lone_do (i := 1) 3 rfl (by kernel_rfl) rfl (by rfl) ?_
      intro K hK
      refine oper_call 20 _ _ rfl #[.agg (bC b a c).toArray] (by rw [List.map_toArray]; rfl) (enters Tryz.func20 (by kernel_rfl) rfl) (fun v w' => Hid (Mer.OwE (nums .u8) 23 32 w' y1.heap.size v Lf ∧ Below y1.heap.size y1 w')) ((KL.out y1 (FM.out _ C1.out)).mono (by rintro e w' ⟨v, rfl, h⟩; exact ⟨_, rfl, h⟩)) ?_
      rintro v19 y2 H1
      obtain ⟨al, cl, rfl, hlc, hnl, hes, _⟩ := H1.out.1.es
      have HS : Hid (Mer.ES (nums .u8) 32 y2 al Lf) := hes
      have C2 : Hid (C y2) := CK.out _ _ C1.out H1.out.2
      have B7 : Hid (Blk y2 (y0.heap.size) 23 (nums .u8 zr)) := B7.out.below H1.out.2 B7.out.lt
      refine hK _ _ C2.out ?_
      clear hK K H1 hes hnl
      simp only [Act.put, List.setIfInBounds_toArray, List.set_cons_zero, List.set_cons_succ]
      refine lone_do (i := 2) 2 rfl (by kernel_rfl) rfl (by rfl) ?_
      intro K hK
      refine oper_call 19 _ _ rfl #[.slice al Lf.length cl] (by rw [List.map_toArray]; rfl) (enters Tryz.func19 (by kernel_rfl) rfl) (fun v w' => v = .agg (nums .u8 Rt).toArray ∧ Below y2.heap.size y2 w') ((KR.out al cl y2 hlc HS.out).mono (by rintro e w' ⟨rfl, h⟩; exact ⟨_, rfl, rfl, h⟩)) ?_
      rintro v20 y3 ⟨rfl, H1⟩
      have C3 : Hid (C y3) := CK.out _ _ C2.out H1
      have B7 : Hid (Blk y3 (y0.heap.size) 23 (nums .u8 zr)) := B7.out.below H1 B7.out.lt
      refine hK _ _ C3.out ?_
      clear hK K H1 HS
      simp only [Act.put, List.setIfInBounds_toArray, List.set_cons_zero, List.set_cons_succ]
      refine lone_do (i := 6) 1 rfl (by kernel_rfl) rfl (by rfl) ?_
      intro K hK
      refine oper_call 18 _ _ rfl #[.agg (nums .u8 Rt).toArray, .int .i64 (b.es.length : Int)] (by rw [List.map_toArray]; rfl) (enters Tryz.func18 (by kernel_rfl) rfl) (fun v w' => v = .agg (nums .u8 eh).toArray ∧ Hid (Below y3.heap.size y3 w')) ((KN.out y3).mono (by rintro e w' ⟨rfl, h⟩; exact ⟨_, rfl, rfl, h⟩)) ?_
      rintro v24 y4 ⟨rfl, H1⟩
      have C4 : Hid (C y4) := CK.out _ _ C3.out H1.out
      have B7 : Hid (Blk y4 (y0.heap.size) 23 (nums .u8 zr)) := B7.out.below H1.out B7.out.lt
      refine hK _ _ C4.out ?_
      clear hK K H1
      simp only [Act.put, List.setIfInBounds_toArray, List.set_cons_zero, List.set_cons_succ]
      refine lone_last (i := 8) 0 rfl rfl (by kernel_rfl) rfl (by rfl) ?_
      intro K hK
      refine oper_sta 23 (.tmp 7) (.tmp 24) rfl rfl (y0.heap.size) 23 (nums .u8 zr) (nums .u8 eh) rfl rfl B7.out (by rw [nums_length, nums_length, HLe.out]; rfl) (sH HLe.out) (nums_one _ _) ?_
      intro y9 B9 G9
      have HQ : Hid (Below w5.heap.size w5 y9 ∧ Blk y9 (y0.heap.size) 23 (nums .u8 eh)) := ⟨Sh.grown_below (CO.out _ C4.out) G9 (CO.out _ C4.out).size hg7.out, B9⟩
      refine hK _ _ ?_
      clear hK K
      refine anyC_done (by kernel_rfl) ⟨rfl, ?_⟩
      simp only [Act.put]
      exact ⟨by first | rfl | trivial, y0.heap.size, al, cl, rfl, HQ⟩
  case refine_1 =>
  rintro ex a' w7 ⟨rfl, g7, al, cl, rfl, HQ⟩
  have HZ7 : Hid (Below W.heap.size W w7) := HZ5.out.trans (HQ.out.1.mono HZ5.out.size)
  have HB7 : Hid (Blk w7 g7 23 (nums .u8 eh)) := HQ.out.2
  have HB2 : Hid (Blk w7 g2 26 (bC b a c)) := HB2.out.below HQ.out.1 HB2.out.lt
  have HB3 : Hid (Blk w7 g3 23 (nums .u8 o)) := HB3.out.below HQ.out.1 HB3.out.lt
  have HB5 : Hid (Blk w7 g5 23 (nums .u8 hs)) := HB5.out.below HQ.out.1 HB5.out.lt
  clear HQ HZ5 C0 CO CK FB FE FM KL KR KN HE5
  obtain ⟨C, hC⟩ : ∃ C : World → Prop, C = fun V => Below w7.heap.size w7 V := ⟨_, rfl⟩
  have C0 : Hid (C { w7 with drawn := w7.drawn + 1 }) := by rw [hC]; exact Below.drew (Below.refl _ _)
  have CO : Hid (∀ V, C V → Below w7.heap.size w7 V) := fun V h => by rw [hC] at h; exact h
  have CK : Hid (∀ V V', C V → Below V.heap.size V V' → C V') := fun V V' h1 h2 => by rw [hC] at h1 ⊢; exact h1.trans (h2.mono h1.size)
  have FB : Hid (∀ V, C V → V.rangeAt g2 0 (bC b a c)) := fun V h => (HB2.out.below (CO.out V h) HB2.out.lt).all
  have F3 : Hid (∀ V, C V → V.rangeAt g3 0 (nums .u8 o)) := fun V h => (HB3.out.below (CO.out V h) HB3.out.lt).all
  have F5 : Hid (∀ V, C V → V.rangeAt g5 0 (nums .u8 hs)) := fun V h => (HB5.out.below (CO.out V h) HB5.out.lt).all
  have F7 : Hid (∀ V, C V → V.rangeAt g7 0 (nums .u8 eh)) := fun V h => (HB7.out.below (CO.out V h) HB7.out.lt).all
  clear hC
  go_wp2
  refine region_calm C 18 (by kernel_rfl) ?_
  have hCp : ∀ p : Prop, (∀ W, C W → p) ↔ p := fun p => ⟨fun h => h _ C0.out, fun h _ _ => h⟩
  generalize ({ w7 with drawn := w7.drawn + 1 } : World) = y0 at *
  refine seg 16 [0, 2, 4] rfl (by kernel_rfl) whole_blind (C0.out) (by kernel_rfl) ?_
  change wpQuiet _ _ _ _ (_ :: _ :: _ :: []) _
  repeat (first
    | go_big_quiet_skip
    | (go_big_quiet_want
       first
       | (refine q_load 26 (.tmp 2) rfl g2 0 rfl (bC b a c) _ FB.out Tryz.underlying26 rfl (sB HL.out _ _) ?_
          simp only [Act.put, List.setIfInBounds_toArray, List.set_cons_zero, List.set_cons_succ]
          go_big_quiet_on)
       | (refine q_load 23 (.tmp 7) rfl g7 0 rfl (nums .u8 eh) _ F7.out Tryz.underlying23 rfl (sH HLe.out) ?_
          simp only [Act.put, List.setIfInBounds_toArray, List.set_cons_zero, List.set_cons_succ]
          go_big_quiet_on)
       | (refine q_load 23 (.tmp 5) rfl g5 0 rfl (nums .u8 hs) _ F5.out Tryz.underlying23 rfl (sH HLh.out) ?_
          simp only [Act.put, List.setIfInBounds_toArray, List.set_cons_zero, List.set_cons_succ]
          go_big_quiet_on)
       | (go_big_quiet_op
          go_big_quiet_on)))
  refine wpQuiet_nil ?_
  refine lone_do (i := 1) 15 rfl (by kernel_rfl) rfl (by rfl) ?_
  intro K hK
  refine oper_call 12 _ _ rfl #[.agg (bC b a c).toArray] (by rw [List.map_toArray]; rfl) (enters Tryz.func12 (by kernel_rfl) rfl) (fun v w' => v = .agg (nums .u8 hd).toArray ∧ Hid (Below y0.heap.size y0 w')) ((KD.out y0).mono (by rintro e w' ⟨rfl, h⟩; exact ⟨_, rfl, rfl, h⟩)) ?_
  rintro v9 y1 ⟨rfl, H1⟩
  have C1 : Hid (C y1) := CK.out _ _ C0.out H1.out
  refine hK _ _ C1.out ?_
  clear hK K H1
  simp only [Act.put, List.setIfInBounds_toArray, List.set_cons_zero, List.set_cons_succ]
  refine lone_do (i := 3) 14 rfl (by kernel_rfl) rfl (by rfl) ?_
  intro K hK
  refine oper_call 21 _ _ rfl #[.agg (nums .u8 hd).toArray, .agg (nums .u8 eh).toArray] (by rw [List.map_toArray]; rfl) (enters Tryz.func21 (by kernel_rfl) rfl) (fun v w' => v = .agg (nums .u8 hs).toArray ∧ Hid (Below y1.heap.size y1 w')) ((KJ.out y1).mono (by rintro e w' ⟨rfl, h⟩; exact ⟨_, rfl, rfl, h⟩)) ?_
  rintro v9 y2 ⟨rfl, H1⟩
  have C2 : Hid (C y2) := CK.out _ _ C1.out H1.out
  refine hK _ _ C2.out ?_
  clear hK K H1
  simp only [Act.put, List.setIfInBounds_toArray, List.set_cons_zero, List.set_cons_succ]
  refine seg 8 [5, 6, 7, 8, 10, 11] rfl (by kernel_rfl) whole_blind (C2.out) (by kernel_rfl) ?_
  change wpQuiet _ _ _ _ (_ :: _ :: _ :: _ :: _ :: _ :: []) _
  repeat (first
    | go_big_quiet_skip
    | (go_big_quiet_want
       first
       | (refine q_load 23 (.tmp 3) rfl g3 0 rfl (nums .u8 o) _ F3.out Tryz.underlying23 rfl (sH HOl.out) ?_
          simp only [Act.put, List.setIfInBounds_toArray, List.set_cons_zero, List.set_cons_succ]
          go_big_quiet_on)
       | (refine q_load 23 (.tmp 5) rfl g5 0 rfl (nums .u8 hs) _ F5.out Tryz.underlying23 rfl (sH HLh.out) ?_
          simp only [Act.put, List.setIfInBounds_toArray, List.set_cons_zero, List.set_cons_succ]
          go_big_quiet_on)
       | (refine q_eqh (.tmp 28) (.tmp 29) rfl hs hs true rfl rfl HEQ1.out ?_
          simp only [Act.put, List.setIfInBounds_toArray, List.set_cons_zero, List.set_cons_succ]
          go_big_quiet_on)
       | (go_big_quiet_op
          go_big_quiet_on)))
  refine wpQuiet_nil ?_
  refine lone_do (i := 9) 7 rfl (by kernel_rfl) rfl (by rfl) ?_
  intro K hK
  refine oper_call 21 _ _ rfl #[.agg (nums .u8 o).toArray, .agg (nums .u8 hs).toArray] (by rw [List.map_toArray]; rfl) (enters Tryz.func21 (by kernel_rfl) rfl) (fun v w' => v = .agg (nums .u8 nh).toArray ∧ Hid (Below y2.heap.size y2 w')) ((KO.out y2).mono (by rintro e w' ⟨rfl, h⟩; exact ⟨_, rfl, rfl, h⟩)) ?_
  rintro v9 y3 ⟨rfl, H1⟩
  have C3 : Hid (C y3) := CK.out _ _ C2.out H1.out
  refine hK _ _ C3.out ?_
  clear hK K H1
  simp only [Act.put, List.setIfInBounds_toArray, List.set_cons_zero, List.set_cons_succ]
  refine lone_do (i := 12) 6 rfl (by kernel_rfl) rfl (by rfl) ?_
  intro K hK
  refine oper_call 22 _ _ rfl #[.agg (nums .u8 o).toArray, .agg (nums .u8 hs).toArray] (by rw [List.map_toArray]; rfl) (enters Tryz.func22 (by kernel_rfl) rfl) (fun v w' => v = .agg (nums .u8 nh).toArray ∧ Below y3.heap.size y3 w') ((KQ.out y3).mono (by rintro e w' ⟨rfl, h⟩; exact ⟨_, rfl, rfl, h⟩)) ?_
  rintro v9 y4 ⟨rfl, H1⟩
  have C4 : Hid (C y4) := CK.out _ _ C3.out H1
  refine hK _ _ C4.out ?_
  clear hK K H1
  simp only [Act.put, List.setIfInBounds_toArray, List.set_cons_zero, List.set_cons_succ]
  refine seg 3 [13, 14, 15] rfl (by kernel_rfl) whole_blind (C4.out) (by kernel_rfl) ?_
  change wpQuiet _ _ _ _ (_ :: _ :: _ :: []) _
  repeat (first
    | go_big_quiet_skip
    | (go_big_quiet_want
       first
       | (refine q_eqh (.tmp 34) (.tmp 37) rfl nh nh true rfl rfl HEQ2.out ?_
          simp only [Act.put, List.setIfInBounds_toArray, List.set_cons_zero, List.set_cons_succ]
          go_big_quiet_on)
       | (go_big_quiet_op
          go_big_quiet_on)))
  refine wpQuiet_nil ?_
  refine lone_do (i := 16) 2 rfl (by kernel_rfl) rfl (by rfl) ?_
  intro K hK
  refine oper_call 17 _ _ rfl #[] (by rw [List.map_toArray]; rfl) (enters Tryz.func17 (by kernel_rfl) rfl) (fun v w' => v = .bool true ∧ Hid (Below y4.heap.size y4 w')) ((bknown_any y4).mono (by rintro e w' ⟨rfl, h⟩; exact ⟨_, rfl, rfl, h⟩)) ?_
  rintro v9 y5 ⟨rfl, H1⟩
  have C5 : Hid (C y5) := CK.out _ _ C4.out H1.out
  refine hK _ _ C5.out ?_
  clear hK K H1
  simp only [Act.put, List.setIfInBounds_toArray, List.set_cons_zero, List.set_cons_succ]
  refine seg 1 [17] rfl (by kernel_rfl) whole_blind (C5.out) (by kernel_rfl) ?_
  change wpQuiet _ _ _ _ (_ :: []) _
  repeat (first
    | go_big_quiet_skip
    | (go_big_quiet_want
       first
       | (go_big_quiet_op
          go_big_quiet_on)))
  refine wpQuiet_nil ?_
  refine lone_calm (i := 18) 0 rfl (by kernel_rfl) rfl rfl (C5.out) ?_
  repeat (first
    | go_big_quiet_skip
    | (go_big_quiet_want
       first
       | (go_big_quiet_op
          go_big_quiet_on)))
  refine wpQuiet_nil ?_
  refine anyC_done (by kernel_rfl) ⟨rfl, ?_⟩
  have HF : Hid (Below W.heap.size W y5) := HZ7.out.trans ((CO.out _ C5.out).mono HZ7.out.size)
  clear C0 C1 C2 C3 C4 C5 CO CK FB F3 F5 F7 hCp HB2 HB3 HB5 HB7
  go_wp2
  go_ret
  exact ⟨rfl, HF.out⟩
end Go.Proofs.YtmbglggodifboaaGreatDoor.Sh
