/-
  node: lay, take, name: slots of a node are moved.
-/
import Derived.Test.YteokjfpppmnebaaNd
namespace Go.Proofs.Yteokjfpppmnebaa
open Go.RowKit
set_option linter.unusedVariables false
set_option linter.unusedSimpArgs false
variable {o : Oper} {a : Act} {w : World} {K : Act → World → Prop} {Q : Exit → Act → World → Prop}
/-- A node's cells, with whatever rows. -/
def nR (lv cnt : Int) (rr : List Sl) (nx : Option Nat) (rd : Int) : List Value := [.int .i64 lv, .int .i64 cnt] ++ (rowC rr ++ [pt nx, .int .i64 rd])
theorem nC_nR (lv : Int) (ss : List Sl) (nx : Option Nat) (rd : Int) : nC lv ss nx rd = nR lv (ss.length : Int) (pad ss) nx rd := rfl
theorem nR_len {lv cnt : Int} {rr : List Sl} {nx : Option Nat} {rd : Int} : (nR lv cnt rr nx rd).length = 4 + rr.length * 3 := by simp [nR, rowC_len]; omega
theorem nR_cnt (lv c c' : Int) (rr : List Sl) (nx : Option Nat) (rd : Int) : (nR lv c rr nx rd).set 1 (.int .i64 c') = nR lv c' rr nx rd := rfl
theorem nR_mid (lv cnt : Int) (A B D : List Sl) (nx : Option Nat) (rd : Int) : nR lv cnt (A ++ (B ++ D)) nx rd = ([.int .i64 lv, .int .i64 cnt] ++ rowC A) ++ (rowC B ++ (rowC D ++ [pt nx, .int .i64 rd])) := by
  simp [nR, rowC_app]
theorem nR_one (lv cnt : Int) (A : List Sl) (s : Sl) (D : List Sl) (nx : Option Nat) (rd : Int) : nR lv cnt (A ++ (s :: D)) nx rd = ([.int .i64 lv, .int .i64 cnt] ++ rowC A) ++ (slC s ++ (rowC D ++ [pt nx, .int .i64 rd])) := by
  simp [nR, rowC]
theorem pre_len (lv cnt : Int) (A : List Sl) : ([Value.int .i64 lv, .int .i64 cnt] ++ rowC A).length = 2 + A.length * 3 := by simp [rowC_len]; omega
theorem wrap_small {n : Nat} {x : Int} (e : x = (n : Int)) (h : n < 9223372036854775808) : wrap64 x = (n : Int) := by rw [e]; simp only [wrap64]; omega
/-- One cell of a slot is stored. -/
theorem nR_set (lv cnt : Int) (A : List Sl) (s : Sl) (D : List Sl) (nx : Option Nat) (rd : Int) (j : Nat) (v : Value) (s' : Sl) (hs : (slC s).set j v = slC s') (hj : j < 3) : (nR lv cnt (A ++ (s :: D)) nx rd).set (2 + A.length * 3 + j) v = nR lv cnt (A ++ (s' :: D)) nx rd := by
  rw [nR_one, nR_one, List.set_append_right _ _ (by rw [pre_len]; omega), pre_len, Nat.add_sub_cancel_left, List.set_append_left _ _ (by rw [slC_len]; exact hj), hs]
theorem s60 : (Try.prog.info? 60).map (·.size) = some 3 := by kernel_rfl
theorem s3' : (Try.prog.info? 3).map (·.size) = some 1 := by kernel_rfl
theorem s9' : (Try.prog.info? 9).map (·.size) = some 1 := by kernel_rfl
theorem s53 : (Try.prog.info? 53).map (·.size) = some 1 := by kernel_rfl
theorem run_copy_none3 (w : World) (ty : TypeId) (d a : Option Addr) (dLen dCap sLen sCap : Nat) (hn : Nat.min sLen dLen = 0) :
    (Builtin.copy_ #[78, 78] ty #[.slice d dLen dCap, .slice a sLen sCap]).run Try.prog w = .ok (goInt 0) w := by
  have hs := s60
  cases hq : Try.prog.info? 60 with
  | none => simp [hq] at hs
  | some i =>
    have hl : ∀ (x : Addr), (loadCells x 0).run Try.prog w = .ok #[] w := fun x => by simpa using run_loadCells_list (P := Try.prog) w x [] (by simp)
    cases d <;> cases a <;> simp [Builtin.copy_, run_underlying Try.underlying78, Builtin.lenOf, Builtin.firstCells, sizeOf, typeInfo, hq, hn, storeCells, hl]
/-- Slots are copied into a node. -/
theorem wp_cpn (d s : Operand) (ho : o.op = .call { callee := .builtin .copy, args := #[d, s], argTypes := #[78, 78] }) (b q b2 p n : Nat) (ad sa : Addr) (dl dc sl sc : Nat)
    (hd : a.eval d = .slice (some ad) dl dc) (hs : a.eval s = .slice (some sa) sl sc) (hn : n = min sl dl) (hda : 0 < n → ad = ⟨b, 2 + q * 3, none⟩) (hsa : 0 < n → sa = ⟨b2, 2 + p * 3, none⟩)
    (lv cnt : Int) (rr ts : List Sl) (nx : Option Nat) (rd : Int) (hb : Blk w b 71 (nR lv cnt rr nx rd)) (hts : ts.length = n) (hq : q + n ≤ rr.length)
    (hsrc : ∀ j x, ts[j]? = some x → w.rangeAt b2 (2 + (p + j) * 3) (slC x))
    (h : ∀ w', Blk w' b 71 (nR lv cnt (rr.take q ++ (ts ++ rr.drop (q + n))) nx rd) → w.grownBy w' (some b) → K (a.put o.dst (goInt n)) w') : Oper.wp Try.prog o a w K Q := by
  by_cases h0 : n = 0
  · subst h0
    obtain rfl : ts = [] := List.eq_nil_of_length_eq_zero hts
    have hr := run_copy_none3 w o.type (some ad) (some sa) dl dc sl sc hn.symm
    unfold Oper.wp execOp
    simp only [ho, resolve, invoke, builtin, Sem.run_bind, Sem.run_pure, Result.andThen_ok, List.map_toArray, List.map_cons, List.map_nil, hd, hs, hr]
    refine h w ?_ (World.grownBy.refl _ _)
    simpa using hb
  · have hp : 0 < n := by omega
    obtain rfl := hda hp
    obtain rfl := hsa hp
    have e : rr = rr.take q ++ ((rr.drop q).take n ++ rr.drop (q + n)) := by rw [← List.drop_drop, List.take_append_drop, List.take_append_drop]
    rw [e, nR_mid] at hb
    have hlt : (rr.take q).length = q := by rw [List.length_take]; omega
    refine wp_cp d s 78 ho 60 3 Try.underlying78 s60 b (2 + q * 3) dl dc hd b2 (2 + p * 3) sl sc hs n hn (rowC ts) _ _ _ 71 (by rw [pre_len, hlt]) hb (by rw [rowC_len, rowC_len, hts, List.length_take, List.length_drop]; omega) (by rw [rowC_len, hts]) ?_ (rowC_one _) ?_
    · intro j v hj
      have hjl : j < ts.length * 3 := by have := (List.getElem?_eq_some_iff.1 hj).1; rwa [rowC_len] at this
      obtain ⟨x, hx⟩ : ∃ x, ts[j / 3]? = some x := ⟨_, List.getElem?_eq_getElem (by omega)⟩
      have h1 := rowC_at hx (j % 3) (by omega)
      rw [show j / 3 * 3 + j % 3 = j by omega] at h1
      have h2 := hsrc _ x hx (j % 3) v (by rw [← h1]; exact hj)
      rw [show 2 + (p + j / 3) * 3 + j % 3 = 2 + p * 3 + j by omega] at h2
      exact h2
    · intro w' h1 h2
      rw [← nR_mid] at h1
      exact h w' h1 h2
theorem oper_st1 {P : Program} (ty : TypeId) (x y : Operand) (ho : o.op = .store ty x y) (b i : Nat) (t : TypeId) (vs : List Value) (v : Value)
    (hx : a.eval x = .pointer (some ⟨b, i, none⟩)) (hy : a.eval y = v) (hv : v.cells = #[v]) (hv1 : v.oneCell' = true) (hi : i < vs.length) (hb : Blk w b t vs) (hs : (P.info? ty).map (·.size) = some 1)
    (h : ∀ w', Blk w' b t (vs.set i v) → w.grownBy w' (some b) → K (a.put o.dst undef) w') : Oper.wp P o a w K Q := by
  have hst := run_storeCells_cells (P := P) b i [v] 0 w (fun j hj => by
      have : j = 0 := by simpa using hj
      subst this
      rw [Nat.add_zero, hb.cell, List.getElem?_eq_getElem hi]; rfl) (fun j hj => hb.frozen _) (by simp [hv1])
  unfold Oper.wp execOp
  cases hq : P.info? ty with
  | none => simp [hq] at hs
  | some q1 =>
    have hq1 : q1.size = 1 := by simpa [hq] using hs
    simp only [Nat.add_zero] at hst
    have hsv : (storeVar ty ⟨b, i, none⟩ v).run P w = .ok () (w.setCells b i [v]) := by
      simp [storeVar, Go.sizeOf, typeInfo, hq, hv, hq1, hst]
    simp only [ho, hx, hy, Instr.storeAt, Instr.sureAddr, Sem.run_bind, Sem.run_pure, Result.andThen_ok, hsv]
    exact h _ (hb.set i v) (grown_setCell w _ _)
/-! ### laws for quiet operations -/
def sad (b p : Nat) : Addr := if 16 = p then ⟨b, 2, none⟩ else ⟨b, 2 + p * 3, none⟩
theorem sad_lt {b p : Nat} (h : p < 16) : sad b p = ⟨b, 2 + p * 3, none⟩ := by unfold sad; rw [if_neg (by omega)]
theorem q_slf {C : World → Prop} {K : Act → Prop} (x y : Operand) (ho : o.op = .slice 69 x (some y) none none) (b p : Nat) (hx : a.eval x = .pointer (some ⟨b, 2, none⟩)) (hy : a.eval y = .int .i64 (p : Int)) (hp : p ≤ 16)
    (hk : K (a.put o.dst (.slice (some (sad b p)) (16 - p) (16 - p)))) : o.quiet Try.prog a C K :=
  ⟨_, fun w hw => by
    unfold Oper.quietAt execOp
    have h : (Instr.sliceAt 69 (.pointer (some ⟨b, 2, none⟩)) (some (.int .i64 (p : Int))) none none).run Try.prog w = .ok (.slice (some (sad b p)) (16 - p) (16 - p)) w := run_sl b (some p) none p 16 rfl rfl hp (by omega) w
    simp only [ho, hx, hy, Option.map_none, Option.map_some, h, Sem.run_bind, Result.andThen_ok, Sem.run_pure]
    exact ⟨rfl, rfl⟩, hk⟩
theorem q_slb {C : World → Prop} {K : Act → Prop} (x y z : Operand) (ho : o.op = .slice 69 x (some y) (some z) none) (b p q : Nat) (hx : a.eval x = .pointer (some ⟨b, 2, none⟩)) (hy : a.eval y = .int .i64 (p : Int)) (hz : a.eval z = .int .i64 (q : Int)) (hp : p ≤ q) (hq : q ≤ 16)
    (hk : K (a.put o.dst (.slice (some (sad b p)) (q - p) (16 - p)))) : o.quiet Try.prog a C K :=
  ⟨_, fun w hw => by
    unfold Oper.quietAt execOp
    have h : (Instr.sliceAt 69 (.pointer (some ⟨b, 2, none⟩)) (some (.int .i64 (p : Int))) (some (.int .i64 (q : Int))) none).run Try.prog w = .ok (.slice (some (sad b p)) (q - p) (16 - p)) w := run_sl b (some p) (some q) p q rfl rfl hp hq w
    simp only [ho, hx, hy, hz, Option.map_none, Option.map_some, h, Sem.run_bind, Result.andThen_ok, Sem.run_pure]
    exact ⟨rfl, rfl⟩, hk⟩
theorem q_ixa {C : World → Prop} {K : Act → Prop} (x y : Operand) (ho : o.op = .indexAddr 69 x y) (b k : Nat) (hx : a.eval x = .pointer (some ⟨b, 2, none⟩)) (hy : a.eval y = .int .i64 (k : Int)) (hk1 : k < 16)
    (hk : K (a.put o.dst (.pointer (some ⟨b, 2 + k * 3, none⟩)))) : o.quiet Try.prog a C K :=
  ⟨_, fun w hw => by
    unfold Oper.quietAt execOp
    have h1 : ¬ ((k : Int) < 0) := by omega
    have h2 : ¬ ((16 : Int) ≤ (k : Int)) := by omega
    have h3 : (k : Int) < 16 := by omega
    simp only [ho, hx, hy]
    go_simp, hk⟩
theorem by_below {w w' : World} (g : Below w.heap.size w w') (row : Option Nat) : w.grownBy w' row := ⟨g.os, g.tape, g.output, g.size, fun k hk _ => g.block k hk⟩
/-! ### what the lists are -/
theorem cut_at {ss : List Sl} {i : Nat} (h : i ≤ ss.length) : ∃ A B, ss = A ++ B ∧ A.length = i := ⟨ss.take i, ss.drop i, by rw [List.take_append_drop], by rw [List.length_take]; omega⟩
theorem cut_in {ss : List Sl} {i : Nat} {s : Sl} (h : ss[i]? = some s) : ∃ A B, ss = A ++ s :: B ∧ A.length = i := by
  have hi : i < ss.length := (List.getElem?_eq_some_iff.1 h).1
  refine ⟨ss.take i, ss.drop (i + 1), ?_, by rw [List.length_take]; omega⟩
  have h2 : ss.drop i = s :: ss.drop (i + 1) := by rw [List.drop_eq_getElem_cons hi]; congr 1; exact (List.getElem?_eq_some_iff.1 h).2
  rw [← h2, List.take_append_drop]
theorem take_at (A B : List Sl) (n : Nat) (h : A.length = n) : (A ++ B).take n = A := by rw [← h, List.take_left]
theorem drop_at (A B : List Sl) (n : Nat) (h : A.length = n) : (A ++ B).drop n = B := by rw [← h, List.drop_left]
set_option maxRecDepth 8000 in
set_option maxHeartbeats 1000000 in
theorem lay_any (b : Nat) (lv : Int) (A B : List Sl) (nx : Option Nat) (rd : Int) (i : Nat) (hi : A.length = i) (s : Sl) (w : World) (h : Nd w b lv (A ++ B) nx rd) (hc : (A ++ B).length < 16) :
    Calls Try.prog 57 #[.pointer (some ⟨b, 0, none⟩), .int .i64 (i : Int), .agg (slC s).toArray] w fun e w' => e = .returned (.tuple #[]) ∧ Hid (Nd w' b lv (A ++ s :: B) nx rd ∧ w.grownBy w' (some b)) := by
  obtain ⟨Z, hZ⟩ : ∃ Z, List.replicate (16 - (A ++ B).length) z0 = z0 :: Z ∧ Z = List.replicate (16 - (A ++ s :: B).length) z0 := by
    refine ⟨_, ?_, rfl⟩
    rw [show 16 - (A ++ B).length = 16 - (A ++ s :: B).length + 1 by simp at hc ⊢; omega]
    rfl
  obtain ⟨c, hcE⟩ : ∃ c, (A ++ B).length = c := ⟨_, rfl⟩
  have HF : Hid (nC lv (A ++ s :: B) nx rd = nR lv ((c : Int) + 1) (A ++ (s :: (B ++ Z))) nx rd) := by
    show _ = _
    rw [nC_nR, pad, ← hZ.2]
    simp only [List.append_assoc, List.cons_append]
    congr 1
    rw [← hcE]; simp; omega
  have HL2 : Hid ((A ++ s :: B).length ≤ 16) := by show _ ≤ _; simp at hc ⊢; omega
  have HN : Hid (Blk w b 71 (nR lv (c : Int) ((A ++ B) ++ (z0 :: Z)) nx rd)) := by
    have := h.blk
    rw [nC_nR, pad, hZ.1, hcE] at this
    exact this
  have HZL : Hid (Z.length + c = 15) := by show _ = _; rw [hZ.2, List.length_replicate]; simp at hcE hc ⊢; omega
  have HNd : Hid (Nd w b lv (A ++ B) nx rd) := h
  have HAB : Hid (A.length = i ∧ (A ++ B).length = c) := ⟨hi, hcE⟩
  have hic : i ≤ c := by rw [← hi, ← hcE]; simp
  have hc15 : c < 16 := by rw [← hcE]; exact hc
  have HBL : Hid (B.length = c - i) := by show _ = _; rw [← hi, ← hcE]; simp
  have hblt : b < w.heap.size := h.lt
  clear h hZ hi hcE hc
  go_enter Try.func57, Try.ntmps57
  go_wp2_with (refine al_box rfl 60 (.tmp 2) rfl (slC s) rfl ?_)
  intro g w1 l1 B1 G0
  have HN : Hid (Blk w1 b 71 (nR lv (c : Int) ((A ++ B) ++ (z0 :: Z)) nx rd)) := HN.out.kept G0 (by simp)
  have HNd : Hid (Nd w1 b lv (A ++ B) nx rd) := HNd.out.kept G0 (by simp)
  have HG : Hid (w.grownBy w1 (some b)) := G0.but b
  have HB1 : Hid (Blk w1 g 60 (slC s)) := B1
  have hbg : b ≠ g := by omega
  clear G0 B1
  obtain ⟨C, hC⟩ : ∃ C : World → Prop, C = fun W => Below w1.heap.size w1 W := ⟨_, rfl⟩
  have F1 : Hid (∀ W, C W → W.cell? ⟨b, 1, none⟩ = some (.int .i64 (c : Int))) := fun W hW => by rw [hC] at hW; exact (HN.out.below hW HN.out.lt).cell 1
  have CG : Hid (∀ w w', C w → Grow w w' → C w') := fun W W' h1 h2 => by rw [hC] at h1 ⊢; exact h1.trans (h2.mono h1.size)
  have CE : Hid (∀ W, C W → Below w1.heap.size w1 W) := fun W h => by rw [hC] at h; exact h
  have C0 : Hid (C { w1 with drawn := w1.drawn + 1 }) := by rw [hC]; exact Below.drew (Below.refl _ _)
  clear hC
  have FN : Hid (∀ W, C W → Nd W b lv (A ++ B) nx rd ∧ Blk W b 71 (nR lv (c : Int) ((A ++ B) ++ (z0 :: Z)) nx rd)) := fun W hW => ⟨HNd.out.below (CE.out W hW) HNd.out.lt, HN.out.below (CE.out W hW) HN.out.lt⟩
  go_wp2_with fail
  refine region_grow [15] (by kernel_rfl) ?_
  have hCp : ∀ p : Prop, (∀ W, C W → p) ↔ p := fun p => ⟨fun h => h _ C0.out, fun h _ _ => h⟩
  generalize ({ w1 with drawn := w1.drawn + 1 } : World) = y0 at *
  have e1 : wrap64 ((i : Int) + 1) = ((i + 1 : Nat) : Int) := wrap_small (by omega) (by omega)
  refine segR 1 [0, 1, 2, 3, 4, 5, 6, 7, 8, 9, 10, 11, 12, 13, 14] rfl (by kernel_rfl) whole_blind CG.out C0.out (by kernel_rfl) ?_
  change wpQuiet _ _ _ _ (_ :: _ :: _ :: _ :: _ :: _ :: _ :: _ :: _ :: _ :: _ :: _ :: _ :: _ :: _ :: []) _
  repeat (first
    | go_big_quiet_skip
    | (go_big_quiet_want
       first
       | (refine q_cell 3 (.inl rfl) (.tmp 18) rfl b 1 rfl _ F1.out ?_
          simp only [Act.put, List.setIfInBounds_toArray, List.set_cons_zero, List.set_cons_succ]
          go_big_quiet_on)
       | (refine q_slf (.tmp 8) (.tmp 10) rfl b (i + 1) rfl (by first | exact congrArg _ e1 | rfl | (simp only [e1]; rfl)) (by omega) ?_
          simp only [Act.put, List.setIfInBounds_toArray, List.set_cons_zero, List.set_cons_succ]
          go_big_quiet_on)
       | (refine q_slb (.tmp 14) (.tmp 15) (.tmp 19) rfl b i c rfl rfl rfl hic (by omega) ?_
          simp only [Act.put, List.setIfInBounds_toArray, List.set_cons_zero, List.set_cons_succ]
          go_big_quiet_on)
       | (go_big_quiet_op
          go_big_quiet_on)))
  refine wpQuiet_nil ?_
  refine one_ofR 0 rfl [15] (by kernel_rfl) (by simp) fun j hj => ?_
  obtain rfl := List.mem_singleton.1 hj
  refine ⟨_, rfl, (by rfl), fun y1 hy1 K hK => ?_⟩
  have C1 : Hid (C y1) := CG.out _ _ C0.out hy1
  clear hy1
  refine wp_cpn (.tmp 11) (.tmp 20) rfl b (i + 1) b i (c - i) (sad b (i + 1)) (sad b i) (16 - (i + 1)) (16 - (i + 1)) (c - i) (16 - i) rfl rfl (by show _ = min _ _; omega) (fun q => sad_lt (by omega)) (fun q => sad_lt (by omega)) lv (c : Int) ((A ++ B) ++ (z0 :: Z)) B nx rd (FN.out _ C1.out).2 HBL.out (by have := HZL.out; have := HAB.out.2; simp at this ⊢; omega) (fun j x hx => ?_) ?_
  · refine (FN.out _ C1.out).1.range (i + j) x (pad_at ?_)
    rw [List.getElem?_append_right (by rw [HAB.out.1]; omega), HAB.out.1, Nat.add_sub_cancel_left]
    exact hx
  intro w' B2 G2
  refine hK _ _ (.inl (by simp)) ?_
  clear hK K
  simp only [Act.put, List.setIfInBounds_toArray, List.set_cons_zero, List.set_cons_succ]
  refine doneR (by kernel_rfl) fun y2 hy => ?_
  have C1E := CE.out _ C1.out
  have HG2 : Hid (w.grownBy y2 (some b)) := ((HG.out.trans (by_below C1E (some b))).trans G2).trans (by_below hy _)
  have HB2 : Hid (Blk y2 b 71 (nR lv (c : Int) (((A ++ B) ++ (z0 :: Z)).take (i + 1) ++ (B ++ ((A ++ B) ++ (z0 :: Z)).drop (i + 1 + (c - i)))) nx rd)) := B2.grow hy
  have HBg : Hid (Blk y2 g 60 (slC s)) := ((HB1.out.below C1E HB1.out.lt).kept G2 (by simp; omega)).grow hy
  clear C0 C1 C1E hCp CE CG hy
  clear F1 FN HB1 HG HN HNd e1 B2 G2 HBL
  obtain ⟨x, HX⟩ : ∃ x, Hid (((A ++ B) ++ (z0 :: Z)).take (i + 1) ++ (B ++ ((A ++ B) ++ (z0 :: Z)).drop (i + 1 + (c - i))) = A ++ (x :: (B ++ Z))) := by
    obtain ⟨x, D, hD⟩ : ∃ x D, B ++ (z0 :: Z) = x :: D := by cases B with | nil => exact ⟨_, _, rfl⟩ | cons u v => exact ⟨_, _, rfl⟩
    refine ⟨x, ?_⟩
    show _ = _
    have h1 : ((A ++ B) ++ (z0 :: Z)).take (i + 1) = A ++ [x] := by
      rw [List.append_assoc, hD, show A ++ x :: D = (A ++ [x]) ++ D by simp]
      exact take_at _ _ _ (by simp [HAB.out.1])
    have h2 : ((A ++ B) ++ (z0 :: Z)).drop (i + 1 + (c - i)) = Z := by
      rw [show (A ++ B) ++ (z0 :: Z) = ((A ++ B) ++ [z0]) ++ Z by simp]
      exact drop_at _ _ _ (by rw [List.length_append, HAB.out.2]; simp; omega)
    rw [h1, h2]
    simp
  rw [HX.out] at HB2
  clear HX
  obtain ⟨C, hC⟩ : ∃ C : World → Prop, C = fun W => Below y2.heap.size y2 W := ⟨_, rfl⟩
  have F1 : Hid (∀ W, C W → W.rangeAt g 0 (slC s)) := fun W hW => by rw [hC] at hW; exact (HBg.out.below hW HBg.out.lt).all
  have CG : Hid (∀ w w', C w → Grow w w' → C w') := fun W W' h1 h2 => by rw [hC] at h1 ⊢; exact h1.trans (h2.mono h1.size)
  have CE : Hid (∀ W, C W → Below y2.heap.size y2 W) := fun W h => by rw [hC] at h; exact h
  have C0 : Hid (C { y2 with drawn := y2.drawn + 1 }) := by rw [hC]; exact Below.drew (Below.refl _ _)
  clear hC
  have FN : Hid (∀ W, C W → Blk W b 71 (nR lv (c : Int) (A ++ (x :: (B ++ Z))) nx rd)) := fun W hW => HB2.out.below (CE.out W hW) HB2.out.lt
  go_wp2_with fail
  refine region_grow [6] (by kernel_rfl) ?_
  have hCp : ∀ p : Prop, (∀ W, C W → p) ↔ p := fun p => ⟨fun h => h _ C0.out, fun h _ _ => h⟩
  generalize ({ y2 with drawn := y2.drawn + 1 } : World) = y0 at *
  refine segR 1 [0, 1, 2, 3, 4, 5] rfl (by kernel_rfl) whole_blind CG.out C0.out (by kernel_rfl) ?_
  change wpQuiet _ _ _ _ (_ :: _ :: _ :: _ :: _ :: _ :: []) _
  repeat (first
    | go_big_quiet_skip
    | (go_big_quiet_want
       first
       | (refine q_load 60 (.tmp 5) rfl g 0 rfl (slC s) _ F1.out Try.underlying60 rfl (sSl s) ?_
          simp only [Act.put, List.setIfInBounds_toArray, List.set_cons_zero, List.set_cons_succ]
          go_big_quiet_on)
       | (refine q_ixa (.tmp 26) (.tmp 23) rfl b i rfl rfl (by omega) ?_
          simp only [Act.put, List.setIfInBounds_toArray, List.set_cons_zero, List.set_cons_succ]
          go_big_quiet_on)
       | (go_big_quiet_op
          go_big_quiet_on)))
  refine wpQuiet_nil ?_
  refine one_ofR 0 rfl [6] (by kernel_rfl) (by simp) fun j hj => ?_
  obtain rfl := List.mem_singleton.1 hj
  refine ⟨_, rfl, (by rfl), fun y1 hy1 K hK => ?_⟩
  have C1 : Hid (C y1) := CG.out _ _ C0.out hy1
  clear hy1
  have hb2 := FN.out _ C1.out
  rw [nR_one] at hb2
  refine oper_row 60 (.tmp 27) (.tmp 24) rfl b (2 + i * 3) 71 _ _ _ (slC s) rfl rfl (by rw [pre_len, HAB.out.1]) hb2 rfl (sSl s) (slC_one s) ?_
  intro w' B3 G3
  refine hK _ _ (.inl (by simp)) ?_
  clear hK K
  simp only [Act.put, List.setIfInBounds_toArray, List.set_cons_zero, List.set_cons_succ]
  refine doneR (by kernel_rfl) fun y3 hy => ?_
  have C1E := CE.out _ C1.out
  rw [← nR_one] at B3
  have HG3 : Hid (w.grownBy y3 (some b)) := ((HG2.out.trans (by_below C1E (some b))).trans G3).trans (by_below hy _)
  have HB3 : Hid (Blk y3 b 71 (nR lv (c : Int) (A ++ (s :: (B ++ Z))) nx rd)) := B3.grow hy
  clear C0 C1 C1E hCp CE CG hy
  clear F1 FN HBg HG2 HB2 B3 G3 hb2
  have c1 : y3.cell? ⟨b, 1, none⟩ = some (.int .i64 (c : Int)) := HB3.out.cell 1
  have e1 : wrap64 ((c : Int) + 1) = (c : Int) + 1 := wrap_small (n := c + 1) (by omega) (by omega)
  go_wp2_with (refine st_one rfl 3 (.tmp 34) (.tmp 32) rfl b 1 71 _ (.int .i64 ((c : Int) + 1)) rfl (by first | rfl | exact congrArg _ e1 | (simp only [e1]; rfl)) rfl rfl (by rw [nR_len]; omega) HB3.out s3' ?_)
  intro w4 B4 G4
  rw [nR_cnt] at B4
  have HE : Hid (Nd w4 b lv (A ++ s :: B) nx rd ∧ w.grownBy w4 (some b)) := ⟨⟨by rw [HF.out]; exact B4, HL2.out⟩, HG3.out.trans G4⟩
  clear B4 G4
  go_wp2
  go_end0
  exact ⟨rfl, HE.out⟩
#print axioms lay_any
end Go.Proofs.Yteokjfpppmnebaa
