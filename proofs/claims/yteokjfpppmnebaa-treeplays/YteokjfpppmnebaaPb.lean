/-
  node: take, name.
-/
import Derived.Test.YteokjfpppmnebaaPa
namespace Go.Proofs.Yteokjfpppmnebaa
open Go.RowKit
set_option linter.unusedVariables false
set_option linter.unusedSimpArgs false
theorem zSl : (Try.prog.info? 60).map (fun i => i.zero.map (·.cells)) = some (some (slC z0).toArray) := by kernel_rfl
theorem bd_slot (a : Act) : Try.prog.built 60 ((#[] : Array (Nat × Operand)).map fun p => (p.1, a.eval p.2)).toList = some (slC z0).toArray := by kernel_rfl
theorem q_bd {o : Oper} {a : Act} {C : World → Prop} {K : Act → Prop} (t : TypeId) (parts : Array (Nat × Operand)) (ho : o.op = .build t parts) (cs : List Value) (hf : Try.prog.built t (parts.map fun p => (p.1, a.eval p.2)).toList = some cs.toArray) (hk : K (a.put o.dst (.agg cs.toArray))) : o.quiet Try.prog a C K :=
  ⟨_, fun w hw => by
    have e : Try.prog.built t (parts.map fun (i, x) => (i, a.eval x)).toList = some cs.toArray := hf
    unfold Oper.quietAt execOp
    simp only [ho, Sem.run_bind, run_build w t _ cs.toArray e, Result.andThen_ok, Sem.run_pure]
    exact ⟨rfl, rfl⟩, hk⟩
theorem cell_kept_none {w w' : World} {b k : Nat} (g : w.grownBy w' none) (hb : b < w.heap.size) : w'.cell? ⟨b, k, none⟩ = w.cell? ⟨b, k, none⟩ := by
  unfold World.cell?
  rw [g.block b hb (by simp)]
theorem gr_new {W w1 w2 : World} {r g : Nat} (h : W.grownBy w1 (some r)) (k : w1.grownBy w2 (some g)) (hg : W.heap.size ≤ g) : W.grownBy w2 (some r) :=
  ⟨k.os.trans h.os, k.tape.trans h.tape, k.output.trans h.output, Nat.le_trans h.size k.size, fun x hx hn => (k.block x (Nat.lt_of_lt_of_le hx h.size) (by intro e; injection e with e; omega)).trans (h.block x hx hn)⟩
set_option maxRecDepth 8000 in
set_option maxHeartbeats 1000000 in
theorem take_any (b : Nat) (lv : Int) (A : List Sl) (s : Sl) (D : List Sl) (nx : Option Nat) (rd : Int) (i : Nat) (hi : A.length = i) (w : World) (h : Nd w b lv (A ++ s :: D) nx rd) :
    Calls Try.prog 58 #[.pointer (some ⟨b, 0, none⟩), .int .i64 (i : Int)] w fun e w' => e = .returned (.agg (slC s).toArray) ∧ Hid (Nd w' b lv (A ++ D) nx rd ∧ w.grownBy w' (some b)) := by
  obtain ⟨c, hcE⟩ : ∃ c, (A ++ s :: D).length = c := ⟨_, rfl⟩
  obtain ⟨Z, hZ⟩ : ∃ Z, List.replicate (16 - (A ++ s :: D).length) z0 = Z := ⟨_, rfl⟩
  have hc := h.le
  have HF : Hid (nC lv (A ++ D) nx rd = nR lv ((c : Int) - 1) (A ++ D ++ (z0 :: Z)) nx rd) := by
    show _ = _
    rw [nC_nR, pad, ← hZ, show 16 - (A ++ D).length = 16 - (A ++ s :: D).length + 1 by simp at hc ⊢; omega]
    rw [show ((A ++ D).length : Int) = (c : Int) - 1 by rw [← hcE]; simp; omega]
    rfl
  have HL2 : Hid ((A ++ D).length ≤ 16) := by show _ ≤ _; simp at hc ⊢; omega
  have HN : Hid (Blk w b 71 (nR lv (c : Int) ((A ++ s :: D) ++ Z) nx rd)) := by
    have := h.blk
    rw [nC_nR, pad, hZ, hcE] at this
    exact this
  have HZL : Hid (Z.length + c = 16) := by show _ = _; rw [← hZ, List.length_replicate, ← hcE]; omega
  have HNd : Hid (Nd w b lv (A ++ s :: D) nx rd) := h
  have HAB : Hid (A.length = i ∧ (A ++ s :: D).length = c) := ⟨hi, hcE⟩
  have hic : i < c := by have := hcE; simp at this; omega
  have hc16 : c ≤ 16 := by rw [← hcE]; exact hc
  have HDL : Hid (D.length = c - (i + 1)) := by show _ = _; rw [← hi, ← hcE]; simp; omega
  have hblt : b < w.heap.size := h.lt
  have HSR : Hid (w.rangeAt b (2 + i * 3) (slC s)) := h.range i s (pad_at (by rw [List.getElem?_append_right (by omega), ← hi]; simp))
  clear h hZ hi hcE hc
  go_enter Try.func58, Try.ntmps58
  go_wp2_with (refine al_zero rfl 60 rfl (slC z0) zSl ?_)
  intro g4 w1 l4 B4 G0
  have HN : Hid (Blk w1 b 71 (nR lv (c : Int) ((A ++ s :: D) ++ Z) nx rd)) := HN.out.kept G0 (by simp)
  have HNd : Hid (Nd w1 b lv (A ++ s :: D) nx rd) := HNd.out.kept G0 (by simp)
  have HSR : Hid (w1.rangeAt b (2 + i * 3) (slC s)) := fun j v hj => (cell_kept_none G0 hblt).trans (HSR.out j v hj)
  have HG : Hid (w.grownBy w1 (some b)) := G0.but b
  have hs1 := G0.size
  have n4 : b ≠ g4 := by omega
  have lt4 : g4 < w1.heap.size := B4.lt
  have h1 : ¬ ((i : Int) < 0) := by omega
  have h3 : (i : Int) < 16 := by omega
  clear G0
  go_wp2_with (first
    | (refine ld_w (by rfl) 60 (.tmp 10) rfl b (2 + i * 3) rfl (slC s) _ HSR.out Try.underlying60 rfl (sSl s) ?_)
    | (refine al_zero rfl 60 rfl (slC z0) zSl ?_))
  intro g5 w2 l5 B5 G0
  have HN : Hid (Blk w2 b 71 (nR lv (c : Int) ((A ++ s :: D) ++ Z) nx rd)) := HN.out.kept G0 (by simp)
  have HNd : Hid (Nd w2 b lv (A ++ s :: D) nx rd) := HNd.out.kept G0 (by simp)
  have HG : Hid (w.grownBy w2 (some b)) := HG.out.trans (G0.but b)
  have B4 := B4.kept G0 (by simp)
  have n5 : b ≠ g5 := by omega
  have n45 : g4 ≠ g5 := by omega
  clear G0 HSR h1 h3
  go_wp2_with (refine st_all rfl 60 (.tmp 5) (.tmp 11) rfl g5 60 (slC z0) (slC s) rfl rfl B5 rfl (sSl s) (slC_one s) ?_)
  intro w3 B5' G0
  have HN : Hid (Blk w3 b 71 (nR lv (c : Int) ((A ++ s :: D) ++ Z) nx rd)) := HN.out.kept G0 (by simpa using n5)
  have HNd : Hid (Nd w3 b lv (A ++ s :: D) nx rd) := HNd.out.kept G0 (by simpa using n5)
  have HG : Hid (w.grownBy w3 (some b)) := gr_new HG.out G0 (by omega)
  have HB4 : Hid (Blk w3 g4 60 (slC z0)) := B4.kept G0 (by simpa using n45)
  have HB5 : Hid (Blk w3 g5 60 (slC s)) := B5'
  have hs3 : w.heap.size ≤ w3.heap.size := HG.out.size
  clear G0 B5' B5 B4
  obtain ⟨C, hC⟩ : ∃ C : World → Prop, C = fun W => Below w3.heap.size w3 W := ⟨_, rfl⟩
  have F1 : Hid (∀ W, C W → W.cell? ⟨b, 1, none⟩ = some (.int .i64 (c : Int))) := fun W hW => by rw [hC] at hW; exact (HN.out.below hW HN.out.lt).cell 1
  have CG : Hid (∀ w w', C w → Grow w w' → C w') := fun W W' h1 h2 => by rw [hC] at h1 ⊢; exact h1.trans (h2.mono h1.size)
  have CE : Hid (∀ W, C W → Below w3.heap.size w3 W) := fun W h => by rw [hC] at h; exact h
  have C0 : Hid (C { w3 with drawn := w3.drawn + 1 }) := by rw [hC]; exact Below.drew (Below.refl _ _)
  clear hC
  have FN : Hid (∀ W, C W → Nd W b lv (A ++ s :: D) nx rd ∧ Blk W b 71 (nR lv (c : Int) ((A ++ s :: D) ++ Z) nx rd)) := fun W hW => ⟨HNd.out.below (CE.out W hW) HNd.out.lt, HN.out.below (CE.out W hW) HN.out.lt⟩
  go_wp2_with fail
  refine region_grow [15] (by kernel_rfl) ?_
  have hCp : ∀ p : Prop, (∀ W, C W → p) ↔ p := fun p => ⟨fun h => h _ C0.out, fun h _ _ => h⟩
  generalize ({ w3 with drawn := w3.drawn + 1 } : World) = y0 at *
  have e1 : wrap64 ((i : Int) + 1) = ((i + 1 : Nat) : Int) := wrap_small (by omega) (by omega)
  refine segR 1 [0, 1, 2, 3, 4, 5, 6, 7, 8, 9, 10, 11, 12, 13, 14] rfl (by kernel_rfl) whole_blind CG.out C0.out (by kernel_rfl) ?_
  change wpQuiet _ _ _ _ (_ :: _ :: _ :: _ :: _ :: _ :: _ :: _ :: _ :: _ :: _ :: _ :: _ :: _ :: _ :: []) _
  repeat (first
    | go_big_quiet_skip
    | (go_big_quiet_want
       first
       | (refine q_cell 3 (.inl rfl) (.tmp 24) rfl b 1 rfl _ F1.out ?_
          simp only [Act.put, List.setIfInBounds_toArray, List.set_cons_zero, List.set_cons_succ]
          go_big_quiet_on)
       | (refine q_slf (.tmp 14) (.tmp 15) rfl b i rfl rfl (by omega) ?_
          simp only [Act.put, List.setIfInBounds_toArray, List.set_cons_zero, List.set_cons_succ]
          go_big_quiet_on)
       | (refine q_slb (.tmp 19) (.tmp 21) (.tmp 25) rfl b (i + 1) c rfl (by first | exact congrArg _ e1 | rfl | (simp only [e1]; rfl)) rfl (by omega) hc16 ?_
          simp only [Act.put, List.setIfInBounds_toArray, List.set_cons_zero, List.set_cons_succ]
          go_big_quiet_on)
       | (go_big_quiet_op
          go_big_quiet_on)))
  refine wpQuiet_nil ?_
  refine one_ofR 0 rfl [15] (by kernel_rfl) (by simp) fun j hj => ?_
  obtain rfl := List.mem_singleton.1 hj
  refine ⟨_, rfl, (by rfl), fun y1 hy1 K hK => ?_⟩
  have C1 : Hid (C y1) := CG.out _ _ C0.out hy1
  clear hy1
  refine wp_cpn (.tmp 16) (.tmp 26) rfl b i b (i + 1) (c - (i + 1)) (sad b i) (sad b (i + 1)) (16 - i) (16 - i) (c - (i + 1)) (16 - (i + 1)) rfl rfl (by show _ = min _ _; omega) (fun q => sad_lt (by omega)) (fun q => sad_lt (by omega)) lv (c : Int) ((A ++ s :: D) ++ Z) D nx rd (FN.out _ C1.out).2 HDL.out (by have := HZL.out; have := HAB.out.2; simp at this ⊢; omega) (fun j x hx => ?_) ?_
  · refine (FN.out _ C1.out).1.range (i + 1 + j) x (pad_at ?_)
    rw [List.getElem?_append_right (by rw [HAB.out.1]; omega), HAB.out.1, show i + 1 + j - i = j + 1 by omega]
    exact hx
  intro w' B2 G2
  refine hK _ _ (.inl (by simp)) ?_
  clear hK K
  simp only [Act.put, List.setIfInBounds_toArray, List.set_cons_zero, List.set_cons_succ]
  refine doneR (by kernel_rfl) fun y2 hy => ?_
  have C1E := CE.out _ C1.out
  have HG2 : Hid (w.grownBy y2 (some b)) := ((HG.out.trans (by_below C1E (some b))).trans G2).trans (by_below hy _)
  have HB2 : Hid (Blk y2 b 71 (nR lv (c : Int) (((A ++ s :: D) ++ Z).take i ++ (D ++ ((A ++ s :: D) ++ Z).drop (i + (c - (i + 1))))) nx rd)) := B2.grow hy
  have HB4' : Hid (Blk y2 g4 60 (slC z0)) := ((HB4.out.below C1E HB4.out.lt).kept G2 (by simp; omega)).grow hy
  have HB5' : Hid (Blk y2 g5 60 (slC s)) := ((HB5.out.below C1E HB5.out.lt).kept G2 (by simp; omega)).grow hy
  clear C0 C1 C1E hCp CE CG hy
  clear F1 FN HB4 HB5 HG HN HNd e1 B2 G2
  obtain ⟨x, HX⟩ : ∃ x, Hid (((A ++ s :: D) ++ Z).take i ++ (D ++ ((A ++ s :: D) ++ Z).drop (i + (c - (i + 1)))) = (A ++ D) ++ (x :: Z)) := by
    obtain ⟨P, x, hP⟩ : ∃ P x, A ++ s :: D = P ++ [x] := ⟨(A ++ s :: D).dropLast, (A ++ s :: D).getLast (by simp), (List.dropLast_concat_getLast _).symm⟩
    refine ⟨x, ?_⟩
    show _ = _
    have h1 : ((A ++ s :: D) ++ Z).take i = A := by
      rw [List.append_assoc]
      exact take_at _ _ _ HAB.out.1
    have h2 : ((A ++ s :: D) ++ Z).drop (i + (c - (i + 1))) = x :: Z := by
      rw [hP, List.append_assoc]
      refine drop_at P _ _ ?_
      have := congrArg List.length hP
      rw [HAB.out.2] at this
      simp at this
      omega
    rw [h1, h2]
    simp
  rw [HX.out] at HB2
  have HL3 : Hid ((A ++ D).length = c - 1) := by show _ = _; have := HAB.out.2; simp at this ⊢; omega
  clear HX HAB HDL HZL
  have c1 : y2.cell? ⟨b, 1, none⟩ = some (.int .i64 (c : Int)) := HB2.out.cell 1
  have e2 : wrap64 ((c : Int) - 1) = ((c - 1 : Nat) : Int) := wrap_small (by omega) (by omega)
  go_wp2_with (refine st_one rfl 3 (.tmp 34) (.tmp 32) rfl b 1 71 _ (.int .i64 ((c : Int) - 1)) rfl (by first | rfl | (rw [show (c : Int) - 1 = ((c - 1 : Nat) : Int) by omega]; exact congrArg _ e2)) rfl rfl (by rw [nR_len]; omega) HB2.out s3' ?_)
  intro w4 B6 G6
  rw [nR_cnt, show (c : Int) - 1 = ((c - 1 : Nat) : Int) by omega] at B6
  have HG3 : Hid (w.grownBy w4 (some b)) := HG2.out.trans G6
  have HB6 : Hid (Blk w4 b 71 (nR lv ((c - 1 : Nat) : Int) ((A ++ D) ++ (x :: Z)) nx rd)) := by show Blk _ _ _ _; first | exact B6 | (rw [List.append_assoc]; exact B6)
  have HB4 : Hid (Blk w4 g4 60 (slC z0)) := HB4'.out.kept G6 (by simp; omega)
  have HB5 : Hid (Blk w4 g5 60 (slC s)) := HB5'.out.kept G6 (by simp; omega)
  clear B6 G6 HB2 HG2 HB4' HB5' c1 e2
  obtain ⟨c', hc'⟩ : ∃ c', c - 1 = c' := ⟨_, rfl⟩
  rw [hc'] at HB6 HL3
  have HCC : Hid ((c : Int) - 1 = (c' : Int)) := by show _ = _; omega
  have hcl : c' < 16 := by omega
  clear hc' hic hc16
  obtain ⟨C, hC⟩ : ∃ C : World → Prop, C = fun W => Below w4.heap.size w4 W := ⟨_, rfl⟩
  have F1 : Hid (∀ W, C W → W.cell? ⟨b, 1, none⟩ = some (.int .i64 (c' : Int))) := fun W hW => by rw [hC] at hW; exact (HB6.out.below hW HB6.out.lt).cell 1
  have CG : Hid (∀ w w', C w → Grow w w' → C w') := fun W W' h1 h2 => by rw [hC] at h1 ⊢; exact h1.trans (h2.mono h1.size)
  have CE : Hid (∀ W, C W → Below w4.heap.size w4 W) := fun W h => by rw [hC] at h; exact h
  have C0 : Hid (C { w4 with drawn := w4.drawn + 1 }) := by rw [hC]; exact Below.drew (Below.refl _ _)
  clear hC
  have FN : Hid (∀ W, C W → Blk W b 71 (nR lv (c' : Int) ((A ++ D) ++ (x :: Z)) nx rd)) := fun W hW => HB6.out.below (CE.out W hW) HB6.out.lt
  go_wp2_with fail
  refine region_grow [9] (by kernel_rfl) ?_
  have hCp : ∀ p : Prop, (∀ W, C W → p) ↔ p := fun p => ⟨fun h => h _ C0.out, fun h _ _ => h⟩
  generalize ({ w4 with drawn := w4.drawn + 1 } : World) = y0 at *
  refine segR 1 [0, 1, 2, 3, 4, 5, 6, 7, 8] rfl (by kernel_rfl) whole_blind CG.out C0.out (by kernel_rfl) ?_
  change wpQuiet _ _ _ _ (_ :: _ :: _ :: _ :: _ :: _ :: _ :: _ :: _ :: []) _
  repeat (first
    | go_big_quiet_skip
    | (go_big_quiet_want
       first
       | (refine q_cell 3 (.inl rfl) (.tmp 38) rfl b 1 rfl _ F1.out ?_
          simp only [Act.put, List.setIfInBounds_toArray, List.set_cons_zero, List.set_cons_succ]
          go_big_quiet_on)
       | (refine q_bd 60 #[] rfl (slC z0) (bd_slot _) ?_
          simp only [Act.put, List.setIfInBounds_toArray, List.set_cons_zero, List.set_cons_succ]
          go_big_quiet_on)
       | (refine q_ixa (.tmp 42) (.tmp 39) rfl b c' rfl rfl hcl ?_
          simp only [Act.put, List.setIfInBounds_toArray, List.set_cons_zero, List.set_cons_succ]
          go_big_quiet_on)
       | (go_big_quiet_op
          go_big_quiet_on)))
  refine wpQuiet_nil ?_
  refine one_ofR 0 rfl [9] (by kernel_rfl) (by simp) fun j hj => ?_
  obtain rfl := List.mem_singleton.1 hj
  refine ⟨_, rfl, (by rfl), fun y1 hy1 K hK => ?_⟩
  have C1 : Hid (C y1) := CG.out _ _ C0.out hy1
  clear hy1
  have hb2 := FN.out _ C1.out
  rw [nR_one] at hb2
  refine oper_row 60 (.tmp 43) (.tmp 40) rfl b (2 + c' * 3) 71 _ _ _ (slC z0) rfl rfl (by rw [pre_len, HL3.out]) hb2 rfl (sSl z0) (slC_one z0) ?_
  intro w' B3 G3
  refine hK _ _ (.inl (by simp)) ?_
  clear hK K
  simp only [Act.put, List.setIfInBounds_toArray, List.set_cons_zero, List.set_cons_succ]
  refine doneR (by kernel_rfl) fun y3 hy => ?_
  have C1E := CE.out _ C1.out
  rw [← nR_one] at B3
  have HG4 : Hid (w.grownBy y3 (some b)) := ((HG3.out.trans (by_below C1E (some b))).trans G3).trans (by_below hy _)
  have HB3 : Hid (Blk y3 b 71 (nR lv (c' : Int) ((A ++ D) ++ (z0 :: Z)) nx rd)) := B3.grow hy
  have HB4' : Hid (Blk y3 g4 60 (slC z0)) := ((HB4.out.below C1E HB4.out.lt).kept G3 (by simp; omega)).grow hy
  have HB5' : Hid (Blk y3 g5 60 (slC s)) := ((HB5.out.below C1E HB5.out.lt).kept G3 (by simp; omega)).grow hy
  clear C0 C1 C1E hCp CE CG hy
  clear F1 FN HG3 HB6 HB4 HB5 B3 G3 hb2
  have HE : Hid (Nd y3 b lv (A ++ D) nx rd ∧ w.grownBy y3 (some b)) := ⟨⟨by rw [HF.out, HCC.out]; exact HB3.out, HL2.out⟩, HG4.out⟩
  clear HB3 HG4 HF HL2 HL3 HCC
  go_wp2_with (first
    | (refine ld_w (by rfl) 60 (.tmp 5) rfl g5 0 rfl (slC s) _ HB5'.out.all Try.underlying60 rfl (sSl s) ?_)
    | (refine st_all rfl 60 (.tmp 4) (.tmp 44) rfl g4 60 (slC z0) (slC s) rfl rfl HB4'.out rfl (sSl s) (slC_one s) ?_))
  intro w5 B7 G7
  have HE5 : Hid (Nd w5 b lv (A ++ D) nx rd ∧ w.grownBy w5 (some b)) := ⟨HE.out.1.kept G7 (by simpa using n4), gr_new HE.out.2 G7 (by omega)⟩
  clear HE G7 HB4' HB5'
  go_wp2
  (try simp only [Exit.inBlock, Exit.then])
  exact bodyPost_ret (res_row rfl _ g4 60 _ _ rfl B7 Try.underlying60 rfl (sSl s)) rfl ⟨rfl, HE5.out⟩
set_option maxRecDepth 8000 in
set_option maxHeartbeats 1000000 in
theorem name_any (b : Nat) (lv : Int) (A : List Sl) (s : Sl) (D : List Sl) (nx : Option Nat) (rd : Int) (i : Nat) (hi : A.length = i) (kb : Nat) (hk : s.k = some kb) (t0 : ByteArray) (w : World) (h : Nd w b lv (A ++ s :: D) nx rd) (ht : w.cell? ⟨kb, 2, none⟩ = some (.string t0)) :
    Calls Try.prog 56 #[.pointer (some ⟨b, 0, none⟩), .int .i64 (i : Int)] w fun e w' => e = .returned (.tuple #[]) ∧ Hid (Nd w' b lv (A ++ { s with t := t0 } :: D) nx rd ∧ w.grownBy w' (some b)) := by
  have HNd : Hid (Nd w b lv (A ++ s :: D) nx rd) := h
  have HI : Hid (A.length = i) := hi
  have hl16 : i < 16 := by have := h.le; simp at this; omega
  have HK : Hid (w.cell? ⟨b, 2 + i * 3 + 2, none⟩ = some (.pointer (some ⟨kb, 0, none⟩))) := by
    have h2 := h.slot i s (pad_at (by rw [List.getElem?_append_right (by omega), ← hi]; simp)) 2 (by decide)
    rw [show (slC s)[2]? = some (pt s.k) from rfl, hk] at h2
    exact h2
  have HT : Hid (w.cell? ⟨kb, 2, none⟩ = some (.string t0)) := ht
  have hbl := h.lt
  have hkl : kb < w.heap.size := cell_lt ht
  clear h ht hk hi
  go_enter Try.func56, Try.ntmps56
  obtain ⟨C, hC⟩ : ∃ C : World → Prop, C = fun W => Below w.heap.size w W := ⟨_, rfl⟩
  have F1 : Hid (∀ W, C W → W.cell? ⟨b, 2 + i * 3 + 2, none⟩ = some (.pointer (some ⟨kb, 0, none⟩))) := fun W hW => by rw [hC] at hW; exact (hW.cell (p := ⟨b, 2 + i * 3 + 2, none⟩) hbl).trans HK.out
  have F2 : Hid (∀ W, C W → W.cell? ⟨kb, 2, none⟩ = some (.string t0)) := fun W hW => by rw [hC] at hW; exact (hW.cell (p := ⟨kb, 2, none⟩) hkl).trans HT.out
  have CG : Hid (∀ w w', C w → Grow w w' → C w') := fun W W' h1 h2 => by rw [hC] at h1 ⊢; exact h1.trans (h2.mono h1.size)
  have CE : Hid (∀ W, C W → Below w.heap.size w W) := fun W h => by rw [hC] at h; exact h
  have C0 : Hid (C { w with drawn := w.drawn + 1 }) := by rw [hC]; exact Below.drew (Below.refl _ _)
  clear hC
  have FN : Hid (∀ W, C W → Nd W b lv (A ++ s :: D) nx rd) := fun W hW => HNd.out.below (CE.out W hW) HNd.out.lt
  go_wp2_with fail
  refine region_grow [18] (by kernel_rfl) ?_
  have hCp : ∀ p : Prop, (∀ W, C W → p) ↔ p := fun p => ⟨fun h => h _ C0.out, fun h _ _ => h⟩
  generalize ({ w with drawn := w.drawn + 1 } : World) = y0 at *
  refine segR 1 [0, 1, 2, 3, 4, 5, 6, 7, 8, 9, 10, 11, 12, 13, 14, 15, 16, 17] rfl (by kernel_rfl) whole_blind CG.out C0.out (by kernel_rfl) ?_
  change wpQuiet _ _ _ _ (_ :: _ :: _ :: _ :: _ :: _ :: _ :: _ :: _ :: _ :: _ :: _ :: _ :: _ :: _ :: _ :: _ :: _ :: []) _
  repeat (first
    | go_big_quiet_skip
    | (go_big_quiet_want
       first
       | (refine q_ixa (.tmp 9) (.tmp 7) rfl b i rfl rfl hl16 ?_
          simp only [Act.put, List.setIfInBounds_toArray, List.set_cons_zero, List.set_cons_succ]
          go_big_quiet_on)
       | (refine q_ixa (.tmp 14) (.const (.int .i64 0)) rfl kb 0 rfl rfl (by decide) ?_
          simp only [Act.put, List.setIfInBounds_toArray, List.set_cons_zero, List.set_cons_succ]
          go_big_quiet_on)
       | (refine q_ixa (.tmp 19) (.tmp 5) rfl b i rfl rfl hl16 ?_
          simp only [Act.put, List.setIfInBounds_toArray, List.set_cons_zero, List.set_cons_succ]
          go_big_quiet_on)
       | (refine q_cell 53 (.inr (.inr rfl)) (.tmp 11) rfl b (2 + i * 3 + 2) rfl _ F1.out ?_
          simp only [Act.put, List.setIfInBounds_toArray, List.set_cons_zero, List.set_cons_succ]
          go_big_quiet_on)
       | (refine q_cell 9 (.inr (.inl rfl)) (.tmp 16) rfl kb 2 rfl _ F2.out ?_
          simp only [Act.put, List.setIfInBounds_toArray, List.set_cons_zero, List.set_cons_succ]
          go_big_quiet_on)
       | (go_big_quiet_op
          go_big_quiet_on)))
  refine wpQuiet_nil ?_
  refine one_ofR 0 rfl [18] (by kernel_rfl) (by simp) fun j hj => ?_
  obtain rfl := List.mem_singleton.1 hj
  refine ⟨_, rfl, (by rfl), fun y1 hy1 K hK => ?_⟩
  have C1 : Hid (C y1) := CG.out _ _ C0.out hy1
  clear hy1
  have hn2 := FN.out _ C1.out
  have hb2 := hn2.blk
  rw [nC_nR, pad, List.append_assoc, List.cons_append] at hb2
  refine oper_st1 9 (.tmp 21) (.tmp 17) rfl b (2 + i * 3 + 0) 71 _ (.string t0) rfl rfl rfl rfl (by rw [nR_len]; simp; rw [HI.out]; omega) hb2 s9' ?_
  intro w' B3 G3
  refine hK _ _ (.inl (by simp)) ?_
  clear hK K
  simp only [Act.put, List.setIfInBounds_toArray, List.set_cons_zero, List.set_cons_succ]
  refine doneR (by kernel_rfl) fun y2 hy => ?_
  have C1E := CE.out _ C1.out
  have e0 : 2 + i * 3 + 0 = 2 + A.length * 3 + 0 := by rw [HI.out]
  rw [e0, nR_set lv _ A s _ nx rd 0 (.string t0) { s with t := t0 } rfl (by decide)] at B3
  have hle := hn2.le
  have HE : Hid (Nd y2 b lv (A ++ { s with t := t0 } :: D) nx rd ∧ w.grownBy y2 (some b)) := by
    refine ⟨⟨?_, by simpa using hle⟩, ((by_below C1E (some b)).trans G3).trans (by_below hy _)⟩
    rw [nC_nR, pad, List.append_assoc, List.cons_append]
    have := B3.grow hy
    simpa using this
  clear C0 C1 C1E hCp CE CG hy
  clear F1 F2 FN B3 G3 hb2 hn2 hle HNd HK HT e0
  go_wp2
  go_end0
  exact ⟨rfl, HE.out⟩
#print axioms take_any
#print axioms name_any
end Go.Proofs.Yteokjfpppmnebaa
