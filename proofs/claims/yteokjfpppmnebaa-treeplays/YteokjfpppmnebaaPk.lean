/-
  Tree: mend.
-/
import Derived.Test.YteokjfpppmnebaaPj
namespace Go.Proofs.Yteokjfpppmnebaa
open Go.RowKit
set_option linter.unusedVariables false
set_option linter.unusedSimpArgs false
theorem oper_ld3 {o : Oper} {a : Act} {w : World} {K : Act → World → Prop} {Q : Exit → Act → World → Prop} (x : Operand) (ho : o.op = .load 3 x) (b k : Nat) (hx : a.eval x = .pointer (some ⟨b, k, none⟩)) (z : Int) (hS : w.cell? ⟨b, k, none⟩ = some (.int .i64 z)) (h : K (a.put o.dst (.int .i64 z)) w) : Oper.wp Try.prog o a w K Q := by
  unfold Oper.wp execOp
  simp only [ho, hx]
  go_simp
  exact h
/-- What mend leaves. -/
def MendW (w w' : World) (g b lb rb : Nat) (rt : Option Nat) (n nd : Nat) (lv lk : Int) (X : List Sl) (sp sq : Sl) (Y S1 S2 : List Sl) (nx1 nx2 : Option Nat) : Prop :=
  (S1.length + S2.length ≤ 16 ∧ Blk w' g 55 (tC rt n (nd - 1)) ∧ Nd w' lb lk (S1 ++ S2) nx2 0 ∧ Nd w' b lv (X ++ sp :: Y) none 0 ∧ Upd [g, b, lb] w w') ∨
  (∃ m, 8 ≤ m ∧ m + 8 ≤ S1.length + S2.length ∧ Blk w' g 55 (tC rt n nd) ∧ Nd w' lb lk ((S1 ++ S2).take m) nx1 0 ∧ Nd w' rb lk ((S1 ++ S2).drop m) nx2 0 ∧ Nd w' b lv (X ++ sp :: { sq with t := (((S1 ++ S2).drop m).headD z0).t } :: Y) none 0 ∧ Upd [b, lb, rb] w w')
theorem nd_text {w : World} {b : Nat} {lv : Int} {ss : List Sl} {nx : Option Nat} {rd : Int} (h : Nd w b lv ss nx rd) (hc : 0 < ss.length) : w.cell? ⟨b, 2, none⟩ = some (.string (ss.headD z0).t) := by
  cases ss with
  | nil => simp at hc
  | cons s r => exact h.slot 0 s (pad_at rfl) 0 (by decide)
set_option maxRecDepth 8000 in
set_option maxHeartbeats 2000000 in
theorem mend_walk (g b lb rb : Nat) (rt : Option Nat) (n nd : Nat) (hnd : 1 ≤ nd) (hnd2 : nd ≤ 1000000000) (lv lk : Int) (X : List Sl) (sp sq : Sl) (Y S1 S2 : List Sl) (nx1 nx2 : Option Nat) (i : Nat) (hi : X.length = i) (w : World) (hsp : sp.k = some lb) (hsq : sq.k = some rb) (hT : Blk w g 55 (tC rt n nd)) (hN : Nd w b lv (X ++ sp :: sq :: Y) none 0) (h1 : Nd w lb lk S1 nx1 0) (h2 : Nd w rb lk S2 nx2 0)
    (n1 : b ≠ lb) (n2 : b ≠ rb) (n3 : lb ≠ rb) (n4 : g ≠ b) (n5 : g ≠ lb) (n6 : g ≠ rb) (k1 : 7 ≤ S1.length) (k2 : 7 ≤ S2.length) (k3 : S1.length + S2.length ≤ 23) :
    Calls Try.prog 59 #[.pointer (some ⟨g, 0, none⟩), .pointer (some ⟨b, 0, none⟩), .int .i64 (i : Int)] w fun e w' => e = .returned (.tuple #[]) ∧ Hid (MendW w w' g b lb rb rt n nd lv lk X sp sq Y S1 S2 nx1 nx2) := by
  have HT : Hid (Blk w g 55 (tC rt n nd)) := hT
  have HN : Hid (Nd w b lv (X ++ sp :: sq :: Y) none 0) := hN
  have H1 : Hid (Nd w lb lk S1 nx1 0) := h1
  have H2 : Hid (Nd w rb lk S2 nx2 0) := h2
  have HI : Hid (X.length = i) := hi
  have HK : Hid (sp.k = some lb ∧ sq.k = some rb) := ⟨hsp, hsq⟩
  obtain ⟨c1, hc1⟩ : ∃ c, S1.length = c := ⟨_, rfl⟩
  obtain ⟨c2, hc2⟩ : ∃ c, S2.length = c := ⟨_, rfl⟩
  have HC : Hid (S1.length = c1 ∧ S2.length = c2) := ⟨hc1, hc2⟩
  rw [hc1] at k1 k3
  rw [hc2] at k2 k3
  have m1 : c1 ≤ 16 := by rw [← hc1]; exact h1.le
  have m2 : c2 ≤ 16 := by rw [← hc2]; exact h2.le
  have hi15 : i + 1 < 16 := by have := hN.le; simp at this; omega
  have e1 : wrap64 ((i : Int) + 1) = ((i + 1 : Nat) : Int) := wrap_small (by omega) (by omega)
  have e2 : wrap64 ((i : Int) + 1) = (i : Int) + 1 := wrap_small (n := i + 1) (by omega) (by omega)
  clear hT hN h1 h2 hi hsp hsq hc1 hc2
  go_enter Try.func59, Try.ntmps59
  obtain ⟨C, hC⟩ : ∃ C : World → Prop, C = fun W => Below w.heap.size w W := ⟨_, rfl⟩
  have F1 : Hid (∀ W, C W → W.cell? ⟨b, 2 + i * 3 + 2, none⟩ = some (.pointer (some ⟨lb, 0, none⟩))) := fun W hW => by rw [hC] at hW; exact by have h := (HN.out.below hW HN.out.lt).slot i sp (pad_at (by rw [List.getElem?_append_right (by rw [HI.out]; exact Nat.le_refl _), HI.out]; simp)) 2 (by decide); rw [show (slC sp)[2]? = some (pt sp.k) from rfl, HK.out.1] at h; exact h
  have F2 : Hid (∀ W, C W → W.cell? ⟨b, 2 + (i + 1) * 3 + 2, none⟩ = some (.pointer (some ⟨rb, 0, none⟩))) := fun W hW => by rw [hC] at hW; exact by have h := (HN.out.below hW HN.out.lt).slot (i + 1) sq (pad_at (by rw [List.getElem?_append_right (by rw [HI.out]; omega), HI.out]; simp)) 2 (by decide); rw [show (slC sq)[2]? = some (pt sq.k) from rfl, HK.out.2] at h; exact h
  have CG : Hid (∀ w w', C w → Grow w w' → C w') := fun W W' h1 h2 => by rw [hC] at h1 ⊢; exact h1.trans (h2.mono h1.size)
  have CE : Hid (∀ W, C W → Below w.heap.size w W) := fun W h => by rw [hC] at h; exact h
  have C0 : Hid (C { w with drawn := w.drawn + 1 }) := by rw [hC]; exact Below.drew (Below.refl _ _)
  clear hC
  go_wp2_with fail
  have hCp : ∀ p : Prop, (∀ W, C W → p) ↔ p := fun p => ⟨fun h => h _ C0.out, fun h _ _ => h⟩
  refine wp_region_quiet (C := C) (by kernel_rfl) (by kernel_rfl) C0.out ?_
  change wpQuiet _ _ _ _ (_ :: _ :: _ :: _ :: _ :: _ :: _ :: _ :: _ :: _ :: _ :: _ :: _ :: _ :: _ :: _ :: _ :: []) _
  repeat (first
    | go_big_quiet_skip
    | (go_big_quiet_want
       first
       | (refine q_ixa (.tmp 11) (.tmp 9) rfl b i rfl rfl (by omega) ?_
          simp only [Act.put, List.setIfInBounds_toArray, List.set_cons_zero, List.set_cons_succ]
          go_big_quiet_on)
       | (refine q_ixa (.tmp 19) (.tmp 17) rfl b (i + 1) rfl (by first | exact congrArg _ e1 | rfl | (simp only [e1]; rfl)) (by omega) ?_
          simp only [Act.put, List.setIfInBounds_toArray, List.set_cons_zero, List.set_cons_succ]
          go_big_quiet_on)
       | (refine q_cell 53 (.inr (.inr rfl)) (.tmp 13) rfl b (2 + i * 3 + 2) rfl _ F1.out ?_
          simp only [Act.put, List.setIfInBounds_toArray, List.set_cons_zero, List.set_cons_succ]
          go_big_quiet_on)
       | (refine q_cell 53 (.inr (.inr rfl)) (.tmp 21) rfl b (2 + (i + 1) * 3 + 2) rfl _ F2.out ?_
          simp only [Act.put, List.setIfInBounds_toArray, List.set_cons_zero, List.set_cons_succ]
          go_big_quiet_on)
       | (go_big_quiet_op
          go_big_quiet_on)))
  refine wpQuiet_nil ?_
  intro w1 hw1
  have HB1 := CE.out _ hw1
  have HT1 : Hid (Blk w1 g 55 (tC rt n nd)) := HT.out.below HB1 HT.out.lt
  have HN1 : Hid (Nd w1 b lv (X ++ sp :: sq :: Y) none 0) := HN.out.below HB1 HN.out.lt
  have H11 : Hid (Nd w1 lb lk S1 nx1 0) := H1.out.below HB1 H1.out.lt
  have H21 : Hid (Nd w1 rb lk S2 nx2 0) := H2.out.below HB1 H2.out.lt
  have HU1 : Hid (Upd [] w w1) := Upd.of_below [] HB1
  clear hCp C0 CE CG F1 F2 hw1 HB1 HT HN H1 H2
  obtain ⟨C, hC⟩ : ∃ C : World → Prop, C = fun W => Below w1.heap.size w1 W := ⟨_, rfl⟩
  have F1 : Hid (∀ W, C W → W.cell? ⟨lb, 1, none⟩ = some (.int .i64 (c1 : Int))) := fun W hW => by rw [hC] at hW; exact by have h := (H11.out.below hW H11.out.lt).count; rw [HC.out.1] at h; exact h
  have F2 : Hid (∀ W, C W → W.cell? ⟨rb, 1, none⟩ = some (.int .i64 (c2 : Int))) := fun W hW => by rw [hC] at hW; exact by have h := (H21.out.below hW H21.out.lt).count; rw [HC.out.2] at h; exact h
  have CG : Hid (∀ w w', C w → Grow w w' → C w') := fun W W' h1 h2 => by rw [hC] at h1 ⊢; exact h1.trans (h2.mono h1.size)
  have CE : Hid (∀ W, C W → Below w1.heap.size w1 W) := fun W h => by rw [hC] at h; exact h
  have C0 : Hid (C { w1 with drawn := w1.drawn + 1 }) := by rw [hC]; exact Below.drew (Below.refl _ _)
  clear hC
  have e3 : wrap64 ((c1 : Int) + (c2 : Int)) = (c1 : Int) + (c2 : Int) := by rw [← Int.natCast_add]; exact wrap_small rfl (by omega)
  go_wp2_with fail
  have hCp : ∀ p : Prop, (∀ W, C W → p) ↔ p := fun p => ⟨fun h => h _ C0.out, fun h _ _ => h⟩
  refine wp_region_quiet (C := C) (by kernel_rfl) (by kernel_rfl) C0.out ?_
  change wpQuiet _ _ _ _ (_ :: _ :: _ :: _ :: _ :: _ :: _ :: _ :: _ :: _ :: _ :: []) _
  repeat (first
    | go_big_quiet_skip
    | (go_big_quiet_want
       first
       | (refine q_cell 3 (.inl rfl) (.tmp 35) rfl lb 1 rfl _ F1.out ?_
          simp only [Act.put, List.setIfInBounds_toArray, List.set_cons_zero, List.set_cons_succ]
          go_big_quiet_on)
       | (refine q_cell 3 (.inl rfl) (.tmp 39) rfl rb 1 rfl _ F2.out ?_
          simp only [Act.put, List.setIfInBounds_toArray, List.set_cons_zero, List.set_cons_succ]
          go_big_quiet_on)
       | (go_big_quiet_op
          go_big_quiet_on)))
  refine wpQuiet_nil ?_
  intro w2 hw2
  have HB2 := CE.out _ hw2
  have HT2 : Hid (Blk w2 g 55 (tC rt n nd)) := HT1.out.below HB2 HT1.out.lt
  have HN2 : Hid (Nd w2 b lv (X ++ sp :: sq :: Y) none 0) := HN1.out.below HB2 HN1.out.lt
  have H12 : Hid (Nd w2 lb lk S1 nx1 0) := H11.out.below HB2 H11.out.lt
  have H22 : Hid (Nd w2 rb lk S2 nx2 0) := H21.out.below HB2 H21.out.lt
  have HU2 : Hid (Upd [] w w2) := HU1.out.trans (Upd.of_below [] HB2) (by simp)
  clear hCp C0 CE CG F1 F2 hw2 HB2 HT1 HN1 H11 H21 HU1
  by_cases hs : c1 + c2 ≤ 16
  · have hs' : (c1 : Int) + (c2 : Int) ≤ 16 := by omega
    obtain ⟨C, hC⟩ : ∃ C : World → Prop, C = fun W => W.cell? ⟨lb, 1, none⟩ = some (.int .i64 (c1 : Int)) ∧ W.cell? ⟨rb, 1, none⟩ = some (.int .i64 (c2 : Int)) := ⟨_, rfl⟩
    have C0 : Hid (C { w2 with drawn := w2.drawn + 1 }) := by
      rw [hC]
      have h1 := (H12.out.below (Below.drew (Below.refl _ _)) H12.out.lt).count
      have h2 := (H22.out.below (Below.drew (Below.refl _ _)) H22.out.lt).count
      rw [HC.out.1] at h1
      rw [HC.out.2] at h2
      exact ⟨h1, h2⟩
    have F1 : Hid (∀ W, C W → W.cell? ⟨lb, 1, none⟩ = some (.int .i64 (c1 : Int))) := fun W h => by rw [hC] at h; exact h.1
    have F2 : Hid (∀ W, C W → W.cell? ⟨rb, 1, none⟩ = some (.int .i64 (c2 : Int))) := fun W h => by rw [hC] at h; exact h.2
    have CM : Hid (∀ W, W.cell? ⟨lb, 1, none⟩ = some (.int .i64 (c1 : Int)) → W.cell? ⟨rb, 1, none⟩ = some (.int .i64 (c2 : Int)) → C W) := fun W h1 h2 => by rw [hC]; exact ⟨h1, h2⟩
    have H1y : Hid (Nd { w2 with drawn := w2.drawn + 1 } lb lk S1 nx1 0) := H12.out.below (Below.drew (Below.refl _ _)) H12.out.lt
    have H2y : Hid (Nd { w2 with drawn := w2.drawn + 1 } rb lk S2 nx2 0) := H22.out.below (Below.drew (Below.refl _ _)) H22.out.lt
    have HTy : Hid (Blk { w2 with drawn := w2.drawn + 1 } g 55 (tC rt n nd)) := HT2.out.below (Below.drew (Below.refl _ _)) HT2.out.lt
    have HNy : Hid (Nd { w2 with drawn := w2.drawn + 1 } b lv (X ++ sp :: sq :: Y) none 0) := HN2.out.below (Below.drew (Below.refl _ _)) HN2.out.lt
    have HUy : Hid (Upd [g, b, lb] w { w2 with drawn := w2.drawn + 1 }) := (HU2.out.trans (Upd.of_below [] (Below.drew (Below.refl _ _))) (by simp)).mono (by simp)
    clear hC HT2 HN2 H12 H22 HU2
    go_wp2_with fail
    refine region_calm C 24 (by kernel_rfl) ?_
    have hCp : ∀ p : Prop, (∀ W, C W → p) ↔ p := fun p => ⟨fun h => h _ C0.out, fun h _ _ => h⟩
    generalize ({ w2 with drawn := w2.drawn + 1 } : World) = y0 at *
    refine seg 5 [0, 1, 2, 3, 4, 5, 6, 7, 8, 9, 10, 11, 12, 13, 14, 15, 16, 17, 18, 19] rfl (by kernel_rfl) whole_blind (C0.out) (by kernel_rfl) ?_
    change wpQuiet _ _ _ _ (_ :: _ :: _ :: _ :: _ :: _ :: _ :: _ :: _ :: _ :: _ :: _ :: _ :: _ :: _ :: _ :: _ :: _ :: _ :: _ :: []) _
    repeat (first
      | go_big_quiet_skip
      | (go_big_quiet_want
         first
         | (refine q_cell 3 (.inl rfl) (.tmp 45) rfl lb 1 rfl _ F1.out ?_
            simp only [Act.put, List.setIfInBounds_toArray, List.set_cons_zero, List.set_cons_succ]
            go_big_quiet_on)
         | (refine q_cell 3 (.inl rfl) (.tmp 52) rfl lb 1 rfl _ F1.out ?_
            simp only [Act.put, List.setIfInBounds_toArray, List.set_cons_zero, List.set_cons_succ]
            go_big_quiet_on)
         | (refine q_cell 3 (.inl rfl) (.tmp 60) rfl rb 1 rfl _ F2.out ?_
            simp only [Act.put, List.setIfInBounds_toArray, List.set_cons_zero, List.set_cons_succ]
            go_big_quiet_on)
         | (refine q_slf (.tmp 49) (.tmp 53) rfl lb c1 rfl rfl m1 ?_
            simp only [Act.put, List.setIfInBounds_toArray, List.set_cons_zero, List.set_cons_succ]
            go_big_quiet_on)
         | (refine q_sla (.tmp 57) (.tmp 61) rfl rb c2 rfl rfl m2 ?_
            simp only [Act.put, List.setIfInBounds_toArray, List.set_cons_zero, List.set_cons_succ]
            go_big_quiet_on)
         | (go_big_quiet_op
            go_big_quiet_on)))
    refine wpQuiet_nil ?_
    refine lone_do (i := 20) 4 rfl (by kernel_rfl) rfl (by rfl) ?_
    intro K hK
    refine wp_cpn (.tmp 54) (.tmp 62) rfl lb c1 rb 0 c2 (sad lb c1) ⟨rb, 2, none⟩ (16 - c1) (16 - c1) c2 16 rfl rfl (by show _ = min _ _; omega) (fun q => sad_lt (by omega)) (fun q => rfl) lk (c1 : Int) (pad S1) S2 nx1 0 (by have h := H1y.out.blk; rw [nC_nR, HC.out.1] at h; exact h) HC.out.2 (by rw [pad_len H1y.out.le]; omega) (fun j x hx => by rw [Nat.zero_add]; exact H2y.out.range j x (pad_at hx)) ?_
    intro y1 B1 G1
    have HR1 : Hid (Blk y1 lb 71 (nR lk (c1 : Int) (pad (S1 ++ S2)) nx1 0)) := by
      show Blk _ _ _ _
      have ep : (pad S1).take c1 ++ (S2 ++ (pad S1).drop (c1 + c2)) = pad (S1 ++ S2) := by
        have h1 := HC.out.1
        have h2 := HC.out.2
        unfold pad
        rw [take_at _ _ _ h1, List.drop_append, List.drop_of_length_le (by omega), List.nil_append, List.drop_replicate, h1, List.length_append, h1, h2, List.append_assoc]
        congr 3
        omega
      rw [ep] at B1
      exact B1
    have H2a : Hid (Nd y1 rb lk S2 nx2 0) := H2y.out.kept G1 (by simpa using Ne.symm n3)
    have HTa : Hid (Blk y1 g 55 (tC rt n nd)) := HTy.out.kept G1 (by simpa using n5)
    have HNa : Hid (Nd y1 b lv (X ++ sp :: sq :: Y) none 0) := HNy.out.kept G1 (by simpa using n1)
    have HUa : Hid (Upd [g, b, lb] w y1) := HUy.out.trans (Upd.of_by G1) (by simp)
    have C1 : Hid (C y1) := CM.out y1 (HR1.out.cell 1) (by have h := H2a.out.count; rw [HC.out.2] at h; exact h)
    refine hK _ _ C1.out ?_
    clear hK K B1 G1 H1y H2y HTy HNy HUy hCp
    have hCp : ∀ p : Prop, (∀ W, C W → p) ↔ p := fun p => ⟨fun h => h _ C1.out, fun h _ _ => h⟩
    simp only [Act.put, List.setIfInBounds_toArray, List.set_cons_zero, List.set_cons_succ]
    refine seg 3 [21] rfl (by kernel_rfl) whole_blind (C1.out) (by kernel_rfl) ?_
    change wpQuiet _ _ _ _ (_ :: []) _
    repeat (first
      | go_big_quiet_skip
      | (go_big_quiet_want
         first
         | (go_big_quiet_op
            go_big_quiet_on)))
    refine wpQuiet_nil ?_
    refine lone_calm (i := 22) 2 rfl (by kernel_rfl) rfl rfl (C1.out) ?_
    repeat (first
      | go_big_quiet_skip
      | (go_big_quiet_want
         first
         | (go_big_quiet_op
            go_big_quiet_on)))
    refine wpQuiet_nil ?_
    refine lone_calm (i := 23) 1 rfl (by kernel_rfl) rfl rfl (C1.out) ?_
    repeat (first
      | go_big_quiet_skip
      | (go_big_quiet_want
         first
         | (go_big_quiet_op
            go_big_quiet_on)))
    refine wpQuiet_nil ?_
    refine lone_last (i := 24) 0 rfl rfl (by kernel_rfl) rfl (by rfl) ?_
    intro K hK
    refine oper_st1 3 (.tmp 66) (.tmp 64) rfl lb 1 71 _ (.int .i64 ((c1 : Int) + (c2 : Int))) rfl (by first | rfl | exact congrArg _ e3 | (simp only [e3]; rfl)) rfl rfl (by rw [nR_len]; omega) HR1.out s3' ?_
    intro y2 B2 G2
    rw [nR_cnt] at B2
    have H1b : Hid (Nd y2 lb lk (S1 ++ S2) nx1 0) := ⟨by rw [nC_nR, List.length_append, HC.out.1, HC.out.2]; exact B2, by rw [List.length_append, HC.out.1, HC.out.2]; exact hs⟩
    have H2b : Hid (Nd y2 rb lk S2 nx2 0) := H2a.out.kept G2 (by simpa using Ne.symm n3)
    have HTb : Hid (Blk y2 g 55 (tC rt n nd)) := HTa.out.kept G2 (by simpa using n5)
    have HNb : Hid (Nd y2 b lv (X ++ sp :: sq :: Y) none 0) := HNa.out.kept G2 (by simpa using n1)
    have HUb : Hid (Upd [g, b, lb] w y2) := HUa.out.trans (Upd.of_by G2) (by simp)
    refine hK _ _ ?_
    clear hK K
    refine anyC_done (by kernel_rfl) ⟨rfl, ?_⟩
    simp only [Act.put]
    clear B2 G2 HR1 H2a HTa HNa HUa C0 C1 F1 F2 CM hCp
    have c50 : y2.cell? ⟨rb, 50, none⟩ = some (pt nx2) := H2b.out.next
    go_wp2_with (refine st_one rfl 53 (.tmp 73) (.tmp 71) rfl lb 50 71 _ (pt nx2) rfl rfl rfl rfl (by rw [nC_len H1b.out.le]; decide) H1b.out.blk s53 ?_)
    intro y3 B3 G3
    rw [nC_next _ _ _ _ _ H1b.out.le] at B3
    have H1c : Hid (Nd y3 lb lk (S1 ++ S2) nx2 0) := ⟨B3, H1b.out.le⟩
    have HTc : Hid (Blk y3 g 55 (tC rt n nd)) := HTb.out.kept G3 (by simpa using n5)
    have HNc : Hid (Nd y3 b lv (X ++ sp :: sq :: Y) none 0) := HNb.out.kept G3 (by simpa using n1)
    have HUc : Hid (Upd [g, b, lb] w y3) := HUb.out.trans (Upd.of_by G3) (by simp)
    clear B3 G3 H1b H2b HTb HNb HUb c50
    have K : Calls Try.prog 58 #[.pointer (some ⟨b, 0, none⟩), .int .i64 ((i : Int) + 1)] y3 _ := take_any b lv (X ++ [sp]) sq Y none 0 (i + 1) (by simp [HI.out]) y3 (by simpa using HNc.out)
    go_wp2_with fail
    refine K.mono ?_
    clear K
    rintro e y4 ⟨rfl, H⟩
    have H1d : Hid (Nd y4 lb lk (S1 ++ S2) nx2 0) := H1c.out.kept H.out.2 (by simpa using Ne.symm n1)
    have HTd : Hid (Blk y4 g 55 (tC rt n nd)) := HTc.out.kept H.out.2 (by simpa using n4)
    have HNd : Hid (Nd y4 b lv (X ++ sp :: Y) none 0) := by show Nd _ _ _ _ _ _; have h := H.out.1; simpa using h
    have HUd : Hid (Upd [g, b, lb] w y4) := HUc.out.trans (Upd.of_by H.out.2) (by simp)
    have cn : y4.cell? ⟨g, 2, none⟩ = some (.int .i64 (nd : Int)) := HTd.out.cell 2
    have e5 : wrap64 ((nd : Int) - 1) = ((nd - 1 : Nat) : Int) := wrap_small (by omega) (by omega)
    have HE6 : Hid ((nd : Int) - 1 = ((nd - 1 : Nat) : Int)) := by show _ = _; omega
    clear H H1c HTc HNc HUc
    go_wp2_with (refine st_one rfl 3 (.tmp 84) (.tmp 82) rfl g 2 55 _ (.int .i64 ((nd : Int) - 1)) rfl (by first | rfl | (rw [HE6.out]; exact congrArg _ e5)) rfl rfl (by show 2 < 3; decide) HTd.out s3' ?_)
    intro y5 B5 G5
    have HE : Hid (MendW w y5 g b lb rb rt n nd lv lk X sp sq Y S1 S2 nx1 nx2) := .inl ⟨by rw [HC.out.1, HC.out.2]; exact hs, by rw [HE6.out] at B5; exact B5, H1d.out.kept G5 (by simpa using Ne.symm n5), HNd.out.kept G5 (by simpa using Ne.symm n4), HUd.out.trans (Upd.of_by G5) (by simp)⟩
    clear B5 G5 H1d HTd HNd HUd cn e5 HE6
    go_wp2
    exact bodyPost_ret (results_none rfl _ _ _) rfl ⟨rfl, HE.out⟩
  · have hs' : ¬ (c1 : Int) + (c2 : Int) ≤ 16 := by omega
    obtain ⟨C, hC⟩ : ∃ C : World → Prop, C = fun W => Below w2.heap.size w2 W := ⟨_, rfl⟩
    have F1 : Hid (∀ W, C W → W.cell? ⟨lb, 1, none⟩ = some (.int .i64 (c1 : Int))) := fun W hW => by rw [hC] at hW; exact by have h := (H12.out.below hW H12.out.lt).count; rw [HC.out.1] at h; exact h
    have F2 : Hid (∀ W, C W → W.cell? ⟨rb, 1, none⟩ = some (.int .i64 (c2 : Int))) := fun W hW => by rw [hC] at hW; exact by have h := (H22.out.below hW H22.out.lt).count; rw [HC.out.2] at h; exact h
    have CG : Hid (∀ w w', C w → Grow w w' → C w') := fun W W' h1 h2 => by rw [hC] at h1 ⊢; exact h1.trans (h2.mono h1.size)
    have CE : Hid (∀ W, C W → Below w2.heap.size w2 W) := fun W h => by rw [hC] at h; exact h
    have C0 : Hid (C { w2 with drawn := w2.drawn + 1 }) := by rw [hC]; exact Below.drew (Below.refl _ _)
    clear hC
    go_wp2_with fail
    have hCp : ∀ p : Prop, (∀ W, C W → p) ↔ p := fun p => ⟨fun h => h _ C0.out, fun h _ _ => h⟩
    refine wp_region_quiet (C := C) (by kernel_rfl) (by kernel_rfl) C0.out ?_
    change wpQuiet _ _ _ _ (_ :: _ :: _ :: _ :: _ :: _ :: _ :: _ :: _ :: _ :: []) _
    repeat (first
      | go_big_quiet_skip
      | (go_big_quiet_want
         first
         | (refine q_cell 3 (.inl rfl) (.tmp 88) rfl lb 1 rfl _ F1.out ?_
            simp only [Act.put, List.setIfInBounds_toArray, List.set_cons_zero, List.set_cons_succ]
            go_big_quiet_on)
         | (refine q_cell 3 (.inl rfl) (.tmp 92) rfl rb 1 rfl _ F2.out ?_
            simp only [Act.put, List.setIfInBounds_toArray, List.set_cons_zero, List.set_cons_succ]
            go_big_quiet_on)
         | (go_big_quiet_op
            go_big_quiet_on)))
    refine wpQuiet_nil ?_
    intro w3 hw3
    have HB3 := CE.out _ hw3
    have HT3 : Hid (Blk w3 g 55 (tC rt n nd)) := HT2.out.below HB3 HT2.out.lt
    have HN3 : Hid (Nd w3 b lv (X ++ sp :: sq :: Y) none 0) := HN2.out.below HB3 HN2.out.lt
    have H13 : Hid (Nd w3 lb lk S1 nx1 0) := H12.out.below HB3 H12.out.lt
    have H23 : Hid (Nd w3 rb lk S2 nx2 0) := H22.out.below HB3 H22.out.lt
    have HU3 : Hid (Upd [b, lb, rb] w w3) := (HU2.out.trans (Upd.of_below [] HB3) (by simp)).mono (by simp)
    clear hCp C0 CE CG F1 F2 hw3 HB3 HT2 HN2 H12 H22 HU2
    have HNM : Hid (∀ W (m : Nat), 8 ≤ m → m + 8 ≤ c1 + c2 → Blk W g 55 (tC rt n nd) → Nd W b lv (X ++ sp :: sq :: Y) none 0 → Nd W lb lk ((S1 ++ S2).take m) nx1 0 → Nd W rb lk ((S1 ++ S2).drop m) nx2 0 → Upd [b, lb, rb] w W → Calls Try.prog 56 #[.pointer (some ⟨b, 0, none⟩), .int .i64 ((i : Int) + 1)] W fun e w' => e = .returned (.tuple #[]) ∧ Hid (MendW w w' g b lb rb rt n nd lv lk X sp sq Y S1 S2 nx1 nx2)) := fun W m h1 h2 h3 h4 h5 h6 h7 => by
      have hdl : 0 < ((S1 ++ S2).drop m).length := by rw [List.length_drop, List.length_append, HC.out.1, HC.out.2]; omega
      have K : Calls Try.prog 56 #[.pointer (some ⟨b, 0, none⟩), .int .i64 ((i : Int) + 1)] W _ := name_any b lv (X ++ [sp]) sq Y none 0 (i + 1) (by simp [HI.out]) rb HK.out.2 (((S1 ++ S2).drop m).headD z0).t W (by simpa using h4) (nd_text h6 hdl)
      refine K.mono ?_
      rintro e w' ⟨rfl, H⟩
      refine ⟨rfl, .inr ⟨m, h1, by rw [HC.out.1, HC.out.2]; exact h2, h3.kept H.out.2 (by simpa using n4), h5.kept H.out.2 (by simpa using Ne.symm n1), h6.kept H.out.2 (by simpa using Ne.symm n2), ?_, h7.trans (Upd.of_by H.out.2) (by simp)⟩⟩
      have h := H.out.1
      simpa using h
    by_cases hlt : c1 < c2
    · have hlt' : (c1 : Int) < (c2 : Int) := by omega
      obtain ⟨s0, S2', hS2⟩ : ∃ s r, S2 = s :: r := by have := HC.out.2; cases S2 with | nil => simp at this; omega | cons a r => exact ⟨a, r, rfl⟩
      have HS2 : Hid (S2 = s0 :: S2') := hS2
      clear hS2
      obtain ⟨C, hC⟩ : ∃ C : World → Prop, C = fun W => Below w3.heap.size w3 W := ⟨_, rfl⟩
      have CG : Hid (∀ w w', C w → Grow w w' → C w') := fun W W' h1 h2 => by rw [hC] at h1 ⊢; exact h1.trans (h2.mono h1.size)
      have CE : Hid (∀ W, C W → Below w3.heap.size w3 W) := fun W h => by rw [hC] at h; exact h
      have C0 : Hid (C { w3 with drawn := w3.drawn + 1 }) := by rw [hC]; exact Below.drew (Below.refl _ _)
      clear hC
      have FN : Hid (∀ W, C W → Nd W lb lk S1 nx1 0 ∧ Nd W rb lk S2 nx2 0 ∧ Blk W g 55 (tC rt n nd) ∧ Nd W b lv (X ++ sp :: sq :: Y) none 0 ∧ Upd [b, lb, rb] w W) := fun W hW => ⟨H13.out.below (CE.out W hW) H13.out.lt, H23.out.below (CE.out W hW) H23.out.lt, HT3.out.below (CE.out W hW) HT3.out.lt, HN3.out.below (CE.out W hW) HN3.out.lt, HU3.out.trans (Upd.of_below [] (CE.out W hW)) (by simp)⟩
      have HTK : Hid (∀ W, Nd W rb lk S2 nx2 0 → Calls Try.prog 58 #[.pointer (some ⟨rb, 0, none⟩), .int .i64 0] W fun e w' => ∃ v, e = .returned v ∧ (v = .agg (slC s0).toArray ∧ Hid (Nd w' rb lk S2' nx2 0 ∧ W.grownBy w' (some rb)))) := fun W h => by
        have K : Calls Try.prog 58 #[.pointer (some ⟨rb, 0, none⟩), .int .i64 0] W _ := take_any rb lk [] s0 S2' nx2 0 0 rfl W (by rw [← HS2.out]; exact h)
        refine K.mono ?_
        rintro e w' ⟨rfl, H⟩
        exact ⟨_, rfl, rfl, H⟩
      have HLY : Hid (∀ W, Nd W lb lk S1 nx1 0 → Calls Try.prog 57 #[.pointer (some ⟨lb, 0, none⟩), .int .i64 (c1 : Int), .agg (slC s0).toArray] W fun e w' => ∃ v, e = .returned v ∧ (v = .tuple #[] ∧ Hid (Nd w' lb lk (S1 ++ [s0]) nx1 0 ∧ W.grownBy w' (some lb)))) := fun W h => by
        have K := lay_any lb lk S1 [] nx1 0 c1 HC.out.1 s0 W (by simpa using h) (by rw [List.append_nil, HC.out.1]; omega)
        refine K.mono ?_
        rintro e w' ⟨rfl, H⟩
        exact ⟨_, rfl, rfl, H⟩
      have HSP : Hid ((S1 ++ S2).take (c1 + 1) = S1 ++ [s0] ∧ (S1 ++ S2).drop (c1 + 1) = S2') := by
        rw [HS2.out, show S1 ++ s0 :: S2' = (S1 ++ [s0]) ++ S2' by simp]
        exact ⟨take_at _ _ _ (by simp [HC.out.1]), drop_at _ _ _ (by simp [HC.out.1])⟩
      go_wp2_with fail
      refine region_grow [6, 7] (by kernel_rfl) ?_
      have hCp : ∀ p : Prop, (∀ W, C W → p) ↔ p := fun p => ⟨fun h => h _ C0.out, fun h _ _ => h⟩
      generalize ({ w3 with drawn := w3.drawn + 1 } : World) = y0 at *
      have hCq := anyw_p y0
      refine segF 3 [0, 1, 2, 3, 5] rfl (by kernel_rfl) whole_blind (by decide +kernel) ?_
      change wpQuiet _ _ _ _ (_ :: _ :: _ :: _ :: _ :: []) _
      repeat (first
        | go_big_quiet_skip
        | (go_big_quiet_want
           first
           | (go_big_quiet_op
              go_big_quiet_on)))
      refine wpQuiet_nil ?_
      clear hCq
      refine one_ofR 2 rfl [4, 6] (by kernel_rfl) (by simp) fun j hj => ?_
      simp only [List.mem_cons, List.not_mem_nil, or_false] at hj
      rcases hj with rfl | rfl
      · refine ⟨_, rfl, (by rfl), fun z1 hz1 K hK => ?_⟩
        have C1 : Hid (C z1) := CG.out _ _ C0.out hz1
        refine oper_ld3 (.tmp 98) rfl lb 1 rfl (c1 : Int) (by have h := (FN.out _ C1.out).1.count; rw [HC.out.1] at h; exact h) ?_
        refine hK _ _ (.inr (Grow.refl _)) ?_
        clear hK K
        simp only [Act.put, List.setIfInBounds_toArray, List.set_cons_zero, List.set_cons_succ]
        refine one_ofR 1 rfl [6] (by kernel_rfl) (by simp) fun j hj => ?_
        obtain rfl := List.mem_singleton.1 hj
        refine ⟨_, rfl, (by rfl), fun z2 hz2 K hK => ?_⟩
        have C2 : Hid (C z2) := CG.out _ _ C1.out hz2
        have hF2 := FN.out _ C2.out
        refine oper_calls 58 _ _ rfl #[.pointer (some ⟨rb, 0, none⟩), .int .i64 0] (by rw [List.map_toArray]; rfl) (enters Try.func58 (by kernel_rfl) rfl) (fun v w' => v = .agg (slC s0).toArray ∧ Hid (Nd w' rb lk S2' nx2 0 ∧ z2.grownBy w' (some rb))) (HTK.out z2 hF2.2.1) ?_
        rintro v w4 ⟨rfl, H4⟩
        refine hK _ _ (.inl (by simp)) ?_
        have HA : Hid (Nd w4 lb lk S1 nx1 0 ∧ Nd w4 rb lk S2' nx2 0 ∧ Blk w4 g 55 (tC rt n nd) ∧ Nd w4 b lv (X ++ sp :: sq :: Y) none 0 ∧ Upd [b, lb, rb] w w4) := ⟨hF2.1.kept H4.out.2 (by simpa using n3), H4.out.1, hF2.2.2.1.kept H4.out.2 (by simpa using n6), hF2.2.2.2.1.kept H4.out.2 (by simpa using n2), hF2.2.2.2.2.trans (Upd.of_by H4.out.2) (by simp)⟩
        clear hK K H4
        simp only [Act.put, List.setIfInBounds_toArray, List.set_cons_zero, List.set_cons_succ]
        clear C0 C1 C2 hF2 CE CG hCp hz1 hz2
        refine one_ofR 0 rfl [7] (by kernel_rfl) (by simp) fun j hj => ?_
        obtain rfl := List.mem_singleton.1 hj
        refine ⟨_, rfl, (by rfl), fun z3 hz3 K hK => ?_⟩
        refine oper_calls 57 _ _ rfl #[.pointer (some ⟨lb, 0, none⟩), .int .i64 (c1 : Int), .agg (slC s0).toArray] (by rw [List.map_toArray]; rfl) (enters Try.func57 (by kernel_rfl) rfl) (fun v w' => v = .tuple #[] ∧ Hid (Nd w' lb lk (S1 ++ [s0]) nx1 0 ∧ z3.grownBy w' (some lb))) (HLY.out z3 (HA.out.1.below hz3 HA.out.1.lt)) ?_
        rintro v w5 ⟨rfl, H5⟩
        refine hK _ _ (.inl (by simp)) ?_
        clear hK K
        simp only [Act.put, List.setIfInBounds_toArray, List.set_cons_zero, List.set_cons_succ]
        refine doneR (by kernel_rfl) fun y6 hy => ?_
        have H2z := HA.out.2.1.below hz3 HA.out.2.1.lt
        have HTz := HA.out.2.2.1.grow hz3
        have HNz := HA.out.2.2.2.1.below hz3 HA.out.2.2.2.1.lt
        have HUz := HA.out.2.2.2.2.trans (Upd.of_below [] hz3) (by simp)
        have K := HNM.out y6 (c1 + 1) (by omega) (by omega) ((HTz.kept H5.out.2 (by simpa using n5)).grow hy) ((HNz.kept H5.out.2 (by simpa using n1)).below hy (HNz.kept H5.out.2 (by simpa using n1)).lt) (by rw [HSP.out.1]; exact H5.out.1.below hy H5.out.1.lt) (by rw [HSP.out.2]; exact (H2z.kept H5.out.2 (by simpa using Ne.symm n3)).below hy (H2z.kept H5.out.2 (by simpa using Ne.symm n3)).lt) ((HUz.trans (Upd.of_by H5.out.2) (by simp)).trans (Upd.of_below [] hy) (by simp))
        clear H5 hy hz3 H2z HTz HNz HUz HA HNM HTK HLY HSP HT3 HN3 H13 H23 HU3 FN
        go_wp2_with fail
        refine K.mono ?_
        clear K
        rintro e w9 ⟨rfl, H⟩
        go_wp2
        go_end0
        exact ⟨rfl, H.out⟩
      · refine ⟨_, rfl, (by rfl), fun z2 hz2 K hK => ?_⟩
        have C2 : Hid (C z2) := CG.out _ _ C0.out hz2
        have hF2 := FN.out _ C2.out
        refine oper_calls 58 _ _ rfl #[.pointer (some ⟨rb, 0, none⟩), .int .i64 0] (by rw [List.map_toArray]; rfl) (enters Try.func58 (by kernel_rfl) rfl) (fun v w' => v = .agg (slC s0).toArray ∧ Hid (Nd w' rb lk S2' nx2 0 ∧ z2.grownBy w' (some rb))) (HTK.out z2 hF2.2.1) ?_
        rintro v w4 ⟨rfl, H4⟩
        refine hK _ _ (.inl (by simp)) ?_
        have HA : Hid (Nd w4 lb lk S1 nx1 0 ∧ Nd w4 rb lk S2' nx2 0 ∧ Blk w4 g 55 (tC rt n nd) ∧ Nd w4 b lv (X ++ sp :: sq :: Y) none 0 ∧ Upd [b, lb, rb] w w4) := ⟨hF2.1.kept H4.out.2 (by simpa using n3), H4.out.1, hF2.2.2.1.kept H4.out.2 (by simpa using n6), hF2.2.2.2.1.kept H4.out.2 (by simpa using n2), hF2.2.2.2.2.trans (Upd.of_by H4.out.2) (by simp)⟩
        clear hK K H4
        simp only [Act.put, List.setIfInBounds_toArray, List.set_cons_zero, List.set_cons_succ]
        clear C0 C2 hF2 CE CG hCp hz2
        refine one_ofR 1 rfl [4] (by kernel_rfl) (by simp) fun j hj => ?_
        obtain rfl := List.mem_singleton.1 hj
        refine ⟨_, rfl, (by rfl), fun z4 hz4 K hK => ?_⟩
        refine oper_ld3 (.tmp 98) rfl lb 1 rfl (c1 : Int) (by have h := (HA.out.1.below hz4 HA.out.1.lt).count; rw [HC.out.1] at h; exact h) ?_
        refine hK _ _ (.inr (Grow.refl _)) ?_
        clear hK K
        have HA : Hid (Nd z4 lb lk S1 nx1 0 ∧ Nd z4 rb lk S2' nx2 0 ∧ Blk z4 g 55 (tC rt n nd) ∧ Nd z4 b lv (X ++ sp :: sq :: Y) none 0 ∧ Upd [b, lb, rb] w z4) := ⟨HA.out.1.below hz4 HA.out.1.lt, HA.out.2.1.below hz4 HA.out.2.1.lt, HA.out.2.2.1.grow hz4, HA.out.2.2.2.1.below hz4 HA.out.2.2.2.1.lt, HA.out.2.2.2.2.trans (Upd.of_below [] hz4) (by simp)⟩
        clear hz4
        simp only [Act.put, List.setIfInBounds_toArray, List.set_cons_zero, List.set_cons_succ]
        refine one_ofR 0 rfl [7] (by kernel_rfl) (by simp) fun j hj => ?_
        obtain rfl := List.mem_singleton.1 hj
        refine ⟨_, rfl, (by rfl), fun z3 hz3 K hK => ?_⟩
        refine oper_calls 57 _ _ rfl #[.pointer (some ⟨lb, 0, none⟩), .int .i64 (c1 : Int), .agg (slC s0).toArray] (by rw [List.map_toArray]; rfl) (enters Try.func57 (by kernel_rfl) rfl) (fun v w' => v = .tuple #[] ∧ Hid (Nd w' lb lk (S1 ++ [s0]) nx1 0 ∧ z3.grownBy w' (some lb))) (HLY.out z3 (HA.out.1.below hz3 HA.out.1.lt)) ?_
        rintro v w5 ⟨rfl, H5⟩
        refine hK _ _ (.inl (by simp)) ?_
        clear hK K
        simp only [Act.put, List.setIfInBounds_toArray, List.set_cons_zero, List.set_cons_succ]
        refine doneR (by kernel_rfl) fun y6 hy => ?_
        have H2z := HA.out.2.1.below hz3 HA.out.2.1.lt
        have HTz := HA.out.2.2.1.grow hz3
        have HNz := HA.out.2.2.2.1.below hz3 HA.out.2.2.2.1.lt
        have HUz := HA.out.2.2.2.2.trans (Upd.of_below [] hz3) (by simp)
        have K := HNM.out y6 (c1 + 1) (by omega) (by omega) ((HTz.kept H5.out.2 (by simpa using n5)).grow hy) ((HNz.kept H5.out.2 (by simpa using n1)).below hy (HNz.kept H5.out.2 (by simpa using n1)).lt) (by rw [HSP.out.1]; exact H5.out.1.below hy H5.out.1.lt) (by rw [HSP.out.2]; exact (H2z.kept H5.out.2 (by simpa using Ne.symm n3)).below hy (H2z.kept H5.out.2 (by simpa using Ne.symm n3)).lt) ((HUz.trans (Upd.of_by H5.out.2) (by simp)).trans (Upd.of_below [] hy) (by simp))
        clear H5 hy hz3 H2z HTz HNz HUz HA HNM HTK HLY HSP HT3 HN3 H13 H23 HU3 FN
        go_wp2_with fail
        refine K.mono ?_
        clear K
        rintro e w9 ⟨rfl, H⟩
        go_wp2
        go_end0
        exact ⟨rfl, H.out⟩
    · have hlt' : ¬ (c1 : Int) < (c2 : Int) := by omega
      obtain ⟨S1', s0, hS1⟩ : ∃ P x, S1 = P ++ [x] := ⟨S1.dropLast, S1.getLast (by intro e; have := HC.out.1; rw [e] at this; simp at this; omega), (List.dropLast_concat_getLast _).symm⟩
      have HS1 : Hid (S1 = S1' ++ [s0]) := hS1
      have HSL : Hid (S1'.length = c1 - 1) := by show _ = _; have h := HC.out.1; rw [hS1] at h; simp at h; omega
      clear hS1
      have HSP : Hid ((S1 ++ S2).take (c1 - 1) = S1' ∧ (S1 ++ S2).drop (c1 - 1) = s0 :: S2) := by
        rw [HS1.out, show S1' ++ [s0] ++ S2 = S1' ++ (s0 :: S2) by simp]
        exact ⟨take_at _ _ _ HSL.out, drop_at _ _ _ HSL.out⟩
      have cl : w3.cell? ⟨lb, 1, none⟩ = some (.int .i64 (c1 : Int)) := by have h := H13.out.count; rw [HC.out.1] at h; exact h
      have e5 : wrap64 ((c1 : Int) - 1) = ((c1 - 1 : Nat) : Int) := wrap_small (by omega) (by omega)
      have e6 : (c1 : Int) - 1 = ((c1 - 1 : Nat) : Int) := by omega
      have K := take_any lb lk S1' s0 [] nx1 0 (c1 - 1) HSL.out w3 (by rw [← HS1.out]; exact H13.out)
      rw [← e6] at K
      clear e6
      go_wp2_with fail
      refine K.mono ?_
      clear K
      rintro e w4 ⟨rfl, H⟩
      have H14 : Hid (Nd w4 lb lk S1' nx1 0) := by show Nd _ _ _ _ _ _; have h := H.out.1; simpa using h
      have H24 : Hid (Nd w4 rb lk S2 nx2 0) := H23.out.kept H.out.2 (by simpa using Ne.symm n3)
      have HT4 : Hid (Blk w4 g 55 (tC rt n nd)) := HT3.out.kept H.out.2 (by simpa using n5)
      have HN4 : Hid (Nd w4 b lv (X ++ sp :: sq :: Y) none 0) := HN3.out.kept H.out.2 (by simpa using n1)
      have HU4 : Hid (Upd [b, lb, rb] w w4) := HU3.out.trans (Upd.of_by H.out.2) (by simp)
      clear H H13 H23 HT3 HN3 HU3 cl
      have K : Calls Try.prog 57 #[.pointer (some ⟨rb, 0, none⟩), .int .i64 0, .agg (slC s0).toArray] w4 _ := lay_any rb lk [] S2 nx2 0 0 rfl s0 w4 (by simpa using H24.out) (by rw [List.nil_append, HC.out.2]; omega)
      go_wp2_with fail
      refine K.mono ?_
      clear K
      rintro e w5 ⟨rfl, H⟩
      have K := HNM.out w5 (c1 - 1) (by omega) (by omega) (HT4.out.kept H.out.2 (by simpa using n6)) (HN4.out.kept H.out.2 (by simpa using n2)) (by rw [HSP.out.1]; exact H14.out.kept H.out.2 (by simpa using n3)) (by rw [HSP.out.2]; exact H.out.1) (HU4.out.trans (Upd.of_by H.out.2) (by simp))
      clear H H14 H24 HT4 HN4 HU4 HNM HSP HS1 HSL e5
      go_wp2_with fail
      refine K.mono ?_
      clear K
      rintro e w9 ⟨rfl, H⟩
      go_wp2
      go_end0
      exact ⟨rfl, H.out⟩
#print axioms mend_walk
end Go.Proofs.Yteokjfpppmnebaa
