/-
  Tree: put, whatever tree.
-/
import Derived.Test.YteokjfpppmnebaaPd
namespace Go.Proofs.Yteokjfpppmnebaa
open Go.RowKit
set_option linter.unusedVariables false
set_option linter.unusedSimpArgs false
set_option maxHeartbeats 1000000 in
theorem put_full (g b : Nat) (rt : Option Nat) (n nd : Nat) (hnd : nd < 1000000000) (ss : List Sl) (nx : Option Nat) (s : Sl) (w : World) (hT : Blk w g 55 (tC rt n nd)) (h : Nd w b 0 ss nx 0) (hgb : g ≠ b) (hc : ss.length = 16) :
    Calls Try.prog 45 #[.pointer (some ⟨g, 0, none⟩), .pointer (some ⟨b, 0, none⟩), .agg (slC s).toArray] w fun e w' => ∃ r, e = .returned (.pointer (some ⟨r, 0, none⟩)) ∧ Hid (InsF w w' g b r rt n nd 0 ss (sk ss s.t) s nx 0) := by
  have HN : Hid (Nd w b 0 ss nx 0) := h
  have HT : Hid (Blk w g 55 (tC rt n nd)) := hT
  have HC : Hid (ss.length = 16) := hc
  obtain ⟨R, HR⟩ : ∃ R, Hid (sk ss s.t = R) := ⟨_, rfl⟩
  rw [HR.out]
  clear h hc hT
  go_enter Try.func45, Try.ntmps45
  go_wp2_with (refine al_box rfl 60 (.tmp 2) rfl (slC s) rfl ?_)
  intro g5 w1 l1 B1 G0
  have HN1 : Hid (Nd w1 b 0 ss nx 0) := HN.out.kept G0 (by simp)
  have HT1 : Hid (Blk w1 g 55 (tC rt n nd)) := HT.out.kept G0 (by simp)
  have HU : Hid (Upd [] w w1) := Upd.of_none _ G0
  have HB1 : Hid (Blk w1 g5 60 (slC s)) := B1
  have c0 : w1.cell? ⟨b, 0, none⟩ = some (.int .i64 0) := HN1.out.level
  have cs : w1.cell? ⟨g5, 0, none⟩ = some (.string s.t) := B1.cell 0
  have K := seek_any b 0 ss nx 0 s.t w1 HN1.out
  rw [HR.out] at K
  generalize hit ss s.t = T at *
  clear G0 B1 HN HT
  go_wp2_with fail
  refine K.mono ?_
  clear K
  rintro e w2 ⟨rfl, H⟩
  have HN2 : Hid (Nd w2 b 0 ss nx 0) := HN1.out.below H.out HN1.out.lt
  have HT2 : Hid (Blk w2 g 55 (tC rt n nd)) := HT1.out.below H.out HT1.out.lt
  have HB2 : Hid (w2.rangeAt g5 0 (slC s)) := (HB1.out.below H.out HB1.out.lt).all
  have HU2 : Hid (Upd [] w w2) := HU.out.trans (Upd.of_below [] H.out) (by simp)
  have K := insert_full g b rt n nd hnd 0 ss HC.out nx 0 R (by have := sk_le ss s.t; rw [HR.out, HC.out] at this; exact this) s w2 HT2.out HN2.out hgb
  clear H HU HB1 HN1 HT1 c0 cs HN2 HT2 HR
  go_wp2_with (refine ld_w (by rfl) 60 (.tmp 5) rfl g5 0 rfl (slC s) _ HB2.out Try.underlying60 rfl (sSl s) ?_)
  refine K.mono ?_
  clear K
  rintro e w3 ⟨r, rfl, H⟩
  have HE : Hid (InsF w w3 g b r rt n nd 0 ss R s nx 0) := by
    obtain ⟨L, R', h1, h2, h3, h4, h5, h6, h7, h8⟩ := H.out
    exact ⟨L, R', h1, h2, h3, h4, h5, h6, Nat.le_trans HU2.out.size h7, (HU2.out.mono (S' := [g, b]) (by simp)).trans h8 (fun y hy _ => hy)⟩
  clear H HU2 HB2
  go_wp2
  go_ret
  exact ⟨r, rfl, HE.out⟩
set_option maxRecDepth 8000 in
set_option maxHeartbeats 2000000 in
theorem put_step (l b g : Nat) (rt : Option Nat) (n nd : Nat) (hnd : nd + (l + 1) < 1000000000) (A D : List KB) (p : KB) (nx : Option Nat) (key : ByteArray) (x : Int) (w : World) (hT : Blk w g 55 (tC rt n nd)) (hM : Mem w (l + 1) (.nd b (A ++ p :: D)) nx 0) (hF : Fit (l + 1) (.nd b (A ++ p :: D))) (hD : (fps (l + 1) (.nd b (A ++ p :: D))).Nodup) (hg : g ∉ fps (l + 1) (.nd b (A ++ p :: D))) (hu : und ((A ++ p :: D).map sK) key = A.length)
    (IH : ∀ w, Blk w g 55 (tC rt n nd) → Mem w l p.2 (nxt (fsl l) D nx) 0 → Calls Try.prog 45 #[.pointer (some ⟨g, 0, none⟩), .pointer (some ⟨p.2.bk, 0, none⟩), .agg (slC ⟨key, x, none⟩).toArray] w fun e w' => ∃ t' r, e = .returned (pt (r.map B.bk)) ∧ Hid (PutR w w' g rt n nd l p.2 (nxt (fsl l) D nx) key x t' r)) :
    Calls Try.prog 45 #[.pointer (some ⟨g, 0, none⟩), .pointer (some ⟨b, 0, none⟩), .agg (slC ⟨key, x, none⟩).toArray] w fun e w' => ∃ t' r, e = .returned (pt (r.map B.bk)) ∧ Hid (PutR w w' g rt n nd (l + 1) (.nd b (A ++ p :: D)) nx key x t' r) := by
  obtain ⟨lv, HLV⟩ : ∃ lv : Int, Hid (((l + 1 : Nat) : Int) = lv) := ⟨_, rfl⟩
  have hlb : (lv == 0) = false := beq_eq_false_iff_ne.2 (by rw [← HLV.out]; omega)
  obtain ⟨t, Ht⟩ : ∃ t, Hid (B.nd b (A ++ p :: D) = t) := ⟨_, rfl⟩
  obtain ⟨ss, HSS⟩ : ∃ ss, Hid ((A ++ p :: D).map sK = ss) := ⟨_, rfl⟩
  obtain ⟨i, HI⟩ : ∃ i, Hid (A.length = i) := ⟨_, rfl⟩
  obtain ⟨s, HSL⟩ : ∃ s : Sl, Hid ((⟨key, x, none⟩ : Sl) = s) := ⟨_, rfl⟩
  obtain ⟨kb, HKB⟩ : ∃ kb, Hid (p.2.bk = kb) := ⟨_, rfl⟩
  have hst : s.t = key := by rw [← HSL.out]
  have hM0 : Mem w (l + 1) (.nd b (A ++ p :: D)) nx 0 := hM
  have HT : Hid (Blk w g 55 (tC rt n nd)) := hT
  have HM : Hid (Mem w (l + 1) t nx 0) := by rw [← Ht.out]; exact hM
  have HN : Hid (Nd w b lv ss none 0) := by rw [← HLV.out, ← HSS.out]; exact hM0.1
  have HF : Hid (Fit (l + 1) t) := by rw [← Ht.out]; exact hF
  have HD : Hid ((fps (l + 1) t).Nodup) := by rw [← Ht.out]; exact hD
  have HGN : Hid (g ∉ fps (l + 1) t) := by rw [← Ht.out]; exact hg
  have HUN : Hid (und ss key = i) := by rw [← HSS.out, ← HI.out]; exact hu
  have hil : i < ss.length := by rw [← HSS.out, ← HI.out]; simp
  have hl16 : ss.length ≤ 16 := HN.out.le
  have hgb : g ≠ b := fun e => hg (by rw [e]; simp [fps])
  have HIH : Hid (∀ w, Blk w g 55 (tC rt n nd) → Mem w l p.2 (nxt (fsl l) D nx) 0 → Calls Try.prog 45 #[.pointer (some ⟨g, 0, none⟩), .pointer (some ⟨kb, 0, none⟩), .agg (slC s).toArray] w fun e w' => ∃ t' r, e = .returned (pt (r.map B.bk)) ∧ Hid (PutR w w' g rt n nd l p.2 (nxt (fsl l) D nx) key x t' r)) := by
    rw [← HSL.out, ← HKB.out]; exact IH
  have HSK : Hid (ss[i]? = some (sK p)) := by show _ = _; rw [← HSS.out, ← HI.out]; simp
  have hgl := hT.lt
  rw [Ht.out, HSL.out]
  clear hT hM hM0 hF hD hg hu IH
  go_enter Try.func45, Try.ntmps45
  go_wp2_with (refine al_box rfl 60 (.tmp 2) rfl (slC s) rfl ?_)
  intro g5 w1 l1 B1 G0
  have HU1 : Hid (Upd [] w w1) := Upd.of_none _ G0
  have HN1 : Hid (Nd w1 b lv ss none 0) := HN.out.kept G0 (by simp)
  have HB1 : Hid (Blk w1 g5 60 (slC s)) := B1
  have c0 : w1.cell? ⟨b, 0, none⟩ = some (.int .i64 lv) := HN1.out.level
  have cs : w1.cell? ⟨g5, 0, none⟩ = some (.string key) := by have := B1.cell 0; rw [show (slC s)[0]? = some (.string s.t) from rfl, hst] at this; exact this
  have K := under_any b lv ss none 0 key w1 HN1.out
  rw [HUN.out] at K
  clear G0 B1 HN
  go_wp2_with fail
  refine K.mono ?_
  clear K
  rintro e w2 ⟨rfl, H⟩
  have HU2 : Hid (Upd [] w w2) := HU1.out.trans (Upd.of_below [] H.out) (by simp)
  have HN2 : Hid (Nd w2 b lv ss none 0) := HN1.out.below H.out HN1.out.lt
  have HB2 : Hid (Blk w2 g5 60 (slC s)) := HB1.out.below H.out HB1.out.lt
  clear H HU1 HN1 HB1 c0 cs
  obtain ⟨C, hC⟩ : ∃ C : World → Prop, C = fun W => Below w2.heap.size w2 W := ⟨_, rfl⟩
  have F1 : Hid (∀ W, C W → W.cell? ⟨b, 2 + i * 3 + 2, none⟩ = some (.pointer (some ⟨kb, 0, none⟩))) := fun W hW => by rw [hC] at hW; exact by have h := (HN2.out.below hW HN2.out.lt).slot i (sK p) (pad_at HSK.out) 2 (by decide); rw [show (slC (sK p))[2]? = some (pt (some p.2.bk)) from rfl, HKB.out] at h; exact h
  have F2 : Hid (∀ W, C W → W.rangeAt g5 0 (slC s)) := fun W hW => by rw [hC] at hW; exact (HB2.out.below hW HB2.out.lt).all
  have CG : Hid (∀ w w', C w → Grow w w' → C w') := fun W W' h1 h2 => by rw [hC] at h1 ⊢; exact h1.trans (h2.mono h1.size)
  have CE : Hid (∀ W, C W → Below w2.heap.size w2 W) := fun W h => by rw [hC] at h; exact h
  have C0 : Hid (C { w2 with drawn := w2.drawn + 1 }) := by rw [hC]; exact Below.drew (Below.refl _ _)
  clear hC
  have FN : Hid (∀ W, C W → Upd [] w W) := fun W hW => HU2.out.trans (Upd.of_below [] (CE.out W hW)) (by simp)
  have FM : Hid (∀ W, Upd [] w W → Blk W g 55 (tC rt n nd) ∧ Mem W (l + 1) t nx 0 ∧ Mem W l p.2 (nxt (fsl l) D nx) 0) := fun W u => ⟨HT.out.upd u (by simp), HM.out.upd u (by simp), by have h := HM.out.upd u (by simp); rw [← Ht.out] at h; exact (chain_app.1 h.2).2.1⟩
  go_wp2_with fail
  refine region_grow [9] (by kernel_rfl) ?_
  have hCp : ∀ p : Prop, (∀ W, C W → p) ↔ p := fun p => ⟨fun h => h _ C0.out, fun h _ _ => h⟩
  generalize ({ w2 with drawn := w2.drawn + 1 } : World) = y0 at *
  refine segR 2 [0, 1, 2, 3, 4, 5, 6, 7, 8] rfl (by kernel_rfl) whole_blind CG.out C0.out (by kernel_rfl) ?_
  change wpQuiet _ _ _ _ (_ :: _ :: _ :: _ :: _ :: _ :: _ :: _ :: _ :: []) _
  repeat (first
    | go_big_quiet_skip
    | (go_big_quiet_want
       first
       | (refine q_ixa (.tmp 36) (.tmp 34) rfl b i rfl rfl (by omega) ?_
          simp only [Act.put, List.setIfInBounds_toArray, List.set_cons_zero, List.set_cons_succ]
          go_big_quiet_on)
       | (refine q_cell 53 (.inr (.inr rfl)) (.tmp 38) rfl b (2 + i * 3 + 2) rfl _ F1.out ?_
          simp only [Act.put, List.setIfInBounds_toArray, List.set_cons_zero, List.set_cons_succ]
          go_big_quiet_on)
       | (refine q_load 60 (.tmp 5) rfl g5 0 rfl (slC s) _ F2.out Try.underlying60 rfl (sSl s) ?_
          simp only [Act.put, List.setIfInBounds_toArray, List.set_cons_zero, List.set_cons_succ]
          go_big_quiet_on)
       | (go_big_quiet_op
          go_big_quiet_on)))
  refine wpQuiet_nil ?_
  refine one_ofR 1 rfl [9] (by kernel_rfl) (by simp) fun j hj => ?_
  obtain rfl := List.mem_singleton.1 hj
  refine ⟨_, rfl, (by rfl), fun y1 hy1 K hK => ?_⟩
  have C1 : Hid (C y1) := CG.out _ _ C0.out hy1
  clear hy1
  refine oper_calls 45 _ _ rfl #[.pointer (some ⟨g, 0, none⟩), .pointer (some ⟨kb, 0, none⟩), .agg (slC s).toArray] (by rw [List.map_toArray]; rfl) (enters Try.func45 (by kernel_rfl) rfl) (fun v w' => ∃ t' r, v = pt (r.map B.bk) ∧ Hid (PutR y1 w' g rt n nd l p.2 (nxt (fsl l) D nx) key x t' r)) ((HIH.out y1 (FM.out _ (FN.out _ C1.out)).1 (FM.out _ (FN.out _ C1.out)).2.2).mono (by rintro e w' ⟨t', r, rfl, h⟩; exact ⟨_, rfl, t', r, rfl, h⟩)) ?_
  rintro v w5 ⟨t', r, rfl, H⟩
  refine hK _ _ (.inl (by simp)) ?_
  clear hK K
  simp only [Act.put, List.setIfInBounds_toArray, List.set_cons_zero, List.set_cons_succ]
  have C1E := CE.out _ C1.out
  have HU5 : Hid (Upd [] w y1) := FN.out _ C1.out
  have HP5 : Hid (PutR y1 w5 g rt n nd l p.2 (nxt (fsl l) D nx) key x t' r) := H.out
  clear C0 C1 C1E hCp CE CG
  clear F1 F2 FN H HN2 HB2 HU2
  have hCp : ∀ p : Prop, (∀ W, Anyw W → p) ↔ p := fun p => anyw_p w p
  refine loneR (C := Anyw) (i := 10) 0 rfl (by kernel_rfl) rfl rfl (fun _ _ _ _ => trivial) trivial ?_
  repeat (first
    | go_big_quiet_skip
    | (go_big_quiet_want
       first
       | (go_big_quiet_op
          go_big_quiet_on)))
  refine wpQuiet_nil ?_
  clear hCp
  refine doneR (by kernel_rfl) fun y6 hy => ?_
  have HP6 : Hid (PutR y1 y6 g rt n nd l p.2 (nxt (fsl l) D nx) key x t' r) := HP5.out.last hy
  clear hy HP5
  have HM1 : Hid (Mem y1 (l + 1) (.nd b (A ++ p :: D)) nx 0) := by rw [Ht.out]; exact (FM.out _ HU5.out).2.1
  have HN6 : Hid (Nd y6 b lv (A.map sK ++ sK p :: D.map sK) none 0) := by
    have h := (put_up (by have := HU5.out.size; omega) (by rw [Ht.out]; exact HGN.out) (by rw [Ht.out]; exact HD.out) HM1.out HP6.out (Upd.refl _ y6))
    have hb : b ∉ g :: fps l p.2 := by
      have hd := HD.out
      rw [← Ht.out] at hd
      simp only [fps, List.flatMap_append, List.flatMap_cons, List.nodup_cons, List.mem_append, not_or] at hd
      simp only [List.mem_cons, not_or]
      exact ⟨Ne.symm hgb, hd.1.2.1⟩
    have h2 := Nd.upd HM1.out.1 HP6.out.upd hb
    rw [HLV.out, map_cut] at h2
    exact h2
  have K := name_any b lv (A.map sK) (sK p) (D.map sK) none 0 i (by rw [List.length_map]; exact HI.out) kb (by rw [← HKB.out]; rfl) t'.lt0 y6 HN6.out (by have := HP6.out.mem.text HP6.out.ne; rw [HP6.out.bk, HKB.out] at this; exact this)
  clear HN6
  go_wp2_with fail
  refine K.mono ?_
  clear K
  rintro e w7 ⟨rfl, H⟩
  have HU7 : Hid (Upd [g, b] y6 w7) := (Upd.of_by H.out.2).mono (by simp)
  have HN7 : Hid (Nd w7 b lv (A.map sK ++ sK (t'.lt0, t') :: D.map sK) none 0) := by
    have h := H.out.1
    rw [show ({ sK p with t := t'.lt0 } : Sl) = sK (t'.lt0, t') by unfold sK; rw [HP6.out.bk]] at h
    exact h
  have HT7 : Hid (∃ nd', Blk w7 g 55 (tC rt n nd') ∧ nd' + nods l p.2 = nd + nods l t' + r.elim 0 (nods l) ∧ nd' ≤ nd + l + 1) := by
    obtain ⟨nd', h1, h2⟩ := HP6.out.tree
    exact ⟨nd', h1.kept H.out.2 (by simpa using hgb), h2⟩
  have HFin1 : Hid (∀ wf, Upd [g, b] y6 wf → (∃ nd', Blk wf g 55 (tC rt n nd') ∧ nd' + nods l p.2 = nd + nods l t' + r.elim 0 (nods l) ∧ nd' ≤ nd + l + 1) → Nd wf b lv ((kin A D t' r).map sK) none 0 → PutR w wf g rt n nd (l + 1) t nx key x (.nd b (kin A D t' r)) none) := fun wf u h1 h2 => by
    have h := putR_room (by have := HU5.out.size; omega) (by rw [Ht.out]; exact HGN.out) (by rw [Ht.out]; exact HD.out) HM1.out (by rw [Ht.out]; exact HF.out) (by rw [HSS.out, HI.out]; exact HUN.out) HP6.out u h1 (by rw [HLV.out]; exact h2)
    rw [Ht.out] at h
    exact h.base HU5.out
  have HFin2 : Hid (∀ wf rb L R, Upd [g, b] y6 wf → (∃ nd', Blk wf g 55 (tC rt n nd') ∧ nd' + nods l p.2 = nd + nods l t' + r.elim 0 (nods l) + 1 ∧ nd' ≤ nd + l + 2) → L ++ R = kin A D t' r → 8 ≤ L.length → 8 ≤ R.length → Nd wf b lv (L.map sK) none 0 → Nd wf rb lv (R.map sK) none 0 → y6.heap.size ≤ rb → PutR w wf g rt n nd (l + 1) t nx key x (.nd b L) (some (.nd rb R))) := fun wf rb L R u h1 h2 h3 h4 h5 h6 h7 => by
    have h := putR_split (by have := HU5.out.size; omega) (by rw [Ht.out]; exact HGN.out) (by rw [Ht.out]; exact HD.out) HM1.out (by rw [Ht.out]; exact HF.out) (by rw [HSS.out, HI.out]; exact HUN.out) HP6.out u h1 h2 h3 h4 (by rw [HLV.out]; exact h5) (by rw [HLV.out]; exact h6) h7
    rw [Ht.out] at h
    exact h.base HU5.out
  have HMR : Hid (∀ q, r = some q → w7.cell? ⟨q.bk, 2, none⟩ = some (.string q.lt0)) := fun q e => by
    have h := (put_up (by have := HU5.out.size; omega) (by rw [Ht.out]; exact HGN.out) (by rw [Ht.out]; exact HD.out) HM1.out HP6.out (Upd.refl _ y6)).2.2
    have hm := (HP6.out.memr q e).upd (Upd.of_by H.out.2) (fun y hy => by
      simp only [List.mem_singleton]
      intro e2
      rw [e] at h
      exact h (by rw [← e2]; simp [hy]))
    exact hm.text (by have := (HP6.out.fitr q e).2.1; omega)
  clear H HM1 HP6 HU5 FM HIH HT HM HF HD HGN HUN
  cases r with
  | none =>
    have HE : Hid (PutR w w7 g rt n nd (l + 1) t nx key x (.nd b (kin A D t' none)) none) := HFin1.out w7 HU7.out HT7.out (by rw [kin]; simp only [Option.elim_none, List.nil_append]; rw [map_cut]; exact HN7.out)
    clear HFin1 HFin2 HU7 HT7 HN7 HMR
    simp only [pt, Option.map_none]
    go_wp2
    go_ret
    exact ⟨_, none, rfl, HE.out⟩
  | some q =>
    have cq := HMR.out q rfl
    simp only [pt, Option.map_some]
    obtain ⟨nd1, h1, h2, h3⟩ := HT7.out
    have HT8 : Hid (Blk w7 g 55 (tC rt n nd1)) := h1
    have HQ : Hid (nd1 + nods l p.2 = nd + nods l t' + nods l q) := h2
    have hq3 : nd1 ≤ nd + l + 1 := h3
    clear h1 h2 h3 HT7 HMR
    have e2 : wrap64 ((i : Int) + 1) = (i : Int) + 1 := wrap_small (n := i + 1) (by omega) (by omega)
    by_cases hc : ss.length < 16
    · have K : Calls Try.prog 55 #[.pointer (some ⟨g, 0, none⟩), .pointer (some ⟨b, 0, none⟩), .int .i64 ((i : Int) + 1), .agg #[.string q.lt0, .int .i64 0, .pointer (some ⟨q.bk, 0, none⟩)]] w7 _ := insert_room g b lv (A.map sK ++ [sK (t'.lt0, t')]) (D.map sK) none 0 (i + 1) (by simp [HI.out]) (sK (q.lt0, q)) w7 (by simpa using HN7.out) (by have := hc; rw [← HSS.out] at this; simpa using this)
      clear HSK
      go_wp2_with fail
      refine K.mono ?_
      clear K
      rintro e w8 ⟨rfl, H⟩
      have HE : Hid (PutR w w8 g rt n nd (l + 1) t nx key x (.nd b (kin A D t' (some q))) none) := HFin1.out w8 (HU7.out.trans (Upd.of_by H.out.2) (by simp)) ⟨nd1, HT8.out.kept H.out.2 (by simpa using hgb), HQ.out, hq3⟩ (by
        have h := H.out.1
        rw [show (kin A D t' (some q)).map sK = A.map sK ++ [sK (t'.lt0, t')] ++ sK (q.lt0, q) :: D.map sK by simp [kin]]
        exact h)
      clear H HFin1 HFin2 HT8 HQ HN7 HU7
      go_wp2
      go_ret
      exact ⟨_, none, rfl, HE.out⟩
    · have hS16 : (A.map sK ++ sK (t'.lt0, t') :: D.map sK).length = 16 := by
        have h := hc
        have h2 := hl16
        rw [← HSS.out] at h h2
        simp at h h2 ⊢
        omega
      have K : Calls Try.prog 55 #[.pointer (some ⟨g, 0, none⟩), .pointer (some ⟨b, 0, none⟩), .int .i64 ((i : Int) + 1), .agg #[.string q.lt0, .int .i64 0, .pointer (some ⟨q.bk, 0, none⟩)]] w7 _ := insert_full g b rt n nd1 (by omega) lv (A.map sK ++ sK (t'.lt0, t') :: D.map sK) hS16 none 0 (i + 1) (by omega) (sK (q.lt0, q)) w7 HT8.out HN7.out hgb
      clear HSK hS16
      go_wp2_with fail
      refine K.mono ?_
      clear K
      rintro e w8 ⟨rb, rfl, H⟩
      obtain ⟨L, R, HE⟩ : ∃ L R, Hid (PutR w w8 g rt n nd (l + 1) t nx key x (.nd b L) (some (.nd rb R))) := by
        obtain ⟨L0, R0, h1, h2, h3, h4, h5, h6, h7, h8⟩ := H.out
        have hne : ¬ lv = 0 := by rw [← HLV.out]; omega
        rw [if_neg hne] at h2 h3
        have e4 : L0 ++ R0 = (kin A D t' (some q)).map sK := by
          rw [h4, show A.map sK ++ sK (t'.lt0, t') :: D.map sK = (A.map sK ++ [sK (t'.lt0, t')]) ++ D.map sK by simp, take_at _ _ _ (by simp [HI.out]), drop_at _ _ _ (by simp [HI.out])]
          simp [kin]
        have hl : L0 = ((kin A D t' (some q)).take L0.length).map sK := by rw [List.map_take, ← e4, List.take_left]
        have hr : R0 = ((kin A D t' (some q)).drop L0.length).map sK := by rw [List.map_drop, ← e4, List.drop_left]
        refine ⟨(kin A D t' (some q)).take L0.length, (kin A D t' (some q)).drop L0.length, HFin2.out w8 rb _ _ (HU7.out.trans h8 (fun y hy _ => hy)) ⟨nd1 + 1, h1, by simp only [Option.elim_some]; have := HQ.out; omega, by omega⟩ (List.take_append_drop _ _) ?_ ?_ ?_ ?_ (Nat.le_trans HU7.out.size h7)⟩
        · have h := h5; rw [hl, List.length_map] at h; exact h
        · have h := h6; rw [hr, List.length_map] at h; exact h
        · rw [← hl]; exact h2
        · rw [← hr]; exact h3
      clear H HFin1 HFin2 HT8 HQ HN7 HU7
      go_wp2
      go_ret
      exact ⟨_, some (.nd rb R), rfl, HE.out⟩
theorem put_any : ∀ (l : Nat) (t : B) (nx : Option Nat) (g : Nat) (rt : Option Nat) (n nd : Nat) (key : ByteArray) (x : Int) (w : World), nd + l < 1000000000 → Blk w g 55 (tC rt n nd) → Mem w l t nx 0 → Fit l t → (0 < l → 0 < t.cnt) → (fps l t).Nodup → g ∉ fps l t →
    Calls Try.prog 45 #[.pointer (some ⟨g, 0, none⟩), .pointer (some ⟨t.bk, 0, none⟩), .agg (slC ⟨key, x, none⟩).toArray] w fun e w' => ∃ t' r, e = .returned (pt (r.map B.bk)) ∧ Hid (PutR w w' g rt n nd l t nx key x t' r)
  | 0, .lf b es, nx, g, rt, n, nd, key, x, w, hnd, hT, hM, hF, hc, hD, hg => by
    have hN : Nd w b 0 (es.map sE) nx 0 := hM
    have hgb : g ≠ b := by simpa [fps, B.bk] using hg
    by_cases h16 : (es.map sE).length < 16
    · refine (put_room g b (es.map sE) nx 0 ⟨key, x, none⟩ w hN h16).mono ?_
      rintro e w' ⟨rfl, H⟩
      exact ⟨_, none, rfl, putR_leaf hgb (hT.kept H.out.2 (by simpa using hgb)) H.out.1 H.out.2⟩
    · refine (put_full g b rt n nd (by omega) (es.map sE) nx ⟨key, x, none⟩ w hT hN hgb (by have := hN.le; omega)).mono ?_
      rintro e w' ⟨r, rfl, H⟩
      obtain ⟨L, R, h⟩ := putR_lfull H.out hN.lt
      exact ⟨_, _, rfl, h⟩
  | l + 1, .nd b ks, nx, g, rt, n, nd, key, x, w, hnd, hT, hM, hF, hc, hD, hg => by
    have hu : und (ks.map sK) key < ks.length := by
      have := und_lt (ss := ks.map sK) key (hc (by omega))
      simpa using this
    obtain ⟨A, p, D, rfl, hA⟩ := cut_kb hu
    refine put_step l b g rt n nd hnd A D p nx key x w hT hM hF hD hg hA.symm (fun w1 h1 h2 => ?_)
    have e1 : fps (l + 1) (.nd b (A ++ p :: D)) = b :: ((A.flatMap fun p => fps l p.2) ++ (fps l p.2 ++ D.flatMap fun p => fps l p.2)) := by simp [fps]
    rw [e1] at hD hg
    rw [List.nodup_cons, List.nodup_append, List.nodup_append] at hD
    simp only [List.mem_cons, List.mem_append, not_or] at hg
    exact put_any l p.2 _ g rt n nd key x w1 (by omega) h1 h2 (hF p (by simp)).1 (fun _ => by have := (hF p (by simp)).2.1; omega) hD.2.2.1.1 hg.2.2.1
#print axioms put_any
end Go.Proofs.Yteokjfpppmnebaa
