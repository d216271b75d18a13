/-
  Tree: split; insert into a full node.
-/
import Derived.Test.YteokjfpppmnebaaPb
namespace Go.Proofs.Yteokjfpppmnebaa
open Go.RowKit
set_option linter.unusedVariables false
set_option linter.unusedSimpArgs false
variable {ops : Array Oper} {rest : List Oper} {o : Oper} {a : Act} {w : World} {Q : Exit → Act → World → Prop}
theorem sl_arr (hg : o.guard = none) (x y : Operand) (ho : o.op = .slice 69 x (some y) none none) (b p : Nat) (hx : a.eval x = .pointer (some ⟨b, 2, none⟩)) (hy : a.eval y = .int .i64 (p : Int)) (hp : p ≤ 16)
    (h : wpList Try.prog ops Q rest (a.put o.dst (.slice (some (sad b p)) (16 - p) (16 - p))) w) : wpList Try.prog ops Q (o :: rest) a w := by
  refine wpList_plain hg fun K hK => ?_
  unfold Oper.wp execOp
  have h1 : (Instr.sliceAt 69 (.pointer (some ⟨b, 2, none⟩)) (some (.int .i64 (p : Int))) none none).run Try.prog w = .ok (.slice (some (sad b p)) (16 - p) (16 - p)) w := run_sl b (some p) none p 16 rfl rfl hp (by omega) w
  simp only [ho, hx, hy, Option.map_none, Option.map_some, h1, Sem.run_bind, Result.andThen_ok, Sem.run_pure]
  exact hK _ _ h
theorem q_sl0 {C : World → Prop} {K : Act → Prop} (x : Operand) (ho : o.op = .slice 69 x none none none) (b : Nat) (hx : a.eval x = .pointer (some ⟨b, 2, none⟩))
    (hk : K (a.put o.dst (.slice (some (sad b 0)) 16 16))) : o.quiet Try.prog a C K :=
  ⟨_, fun w hw => by
    unfold Oper.quietAt execOp
    have h : (Instr.sliceAt 69 (.pointer (some ⟨b, 2, none⟩)) none none none).run Try.prog w = .ok (.slice (some (sad b 0)) 16 16) w := run_sl b none none 0 16 rfl rfl (by omega) (by omega) w
    simp only [ho, hx, Option.map_none, h, Sem.run_bind, Result.andThen_ok, Sem.run_pure]
    exact ⟨rfl, rfl⟩, hk⟩
theorem zc8 : (Builtin.zeroCells (slC z0).toArray 8).toList = rowC (List.replicate 8 z0) := by kernel_rfl
/-- The last eight slots are cleared. -/
theorem cl_half (hg : o.guard = none) (x : Operand) (ho : o.op = .call { callee := .builtin .clear, args := #[x], argTypes := #[78] }) (b : Nat) (hx : a.eval x = .slice (some (sad b 8)) 8 8)
    (lv cnt : Int) (A D : List Sl) (hA : A.length = 8) (hD : D.length = 8) (nx : Option Nat) (rd : Int) (hb : Blk w b 71 (nR lv cnt (A ++ D) nx rd))
    (h : ∀ w', Blk w' b 71 (nR lv cnt (A ++ List.replicate 8 z0) nx rd) → w.grownBy w' (some b) → wpList Try.prog ops Q rest (a.put o.dst (.tuple #[])) w') : wpList Try.prog ops Q (o :: rest) a w := by
  have e : A ++ D = A ++ (D ++ []) := by simp
  rw [e, nR_mid] at hb
  have hst := run_storeCells_cells (P := Try.prog) b 26 (rowC (List.replicate 8 z0)) 0 w (fun j hj => by
      rw [Nat.add_zero, hb.cell]
      have hl : (([Value.int .i64 lv, .int .i64 cnt] ++ rowC A) ++ (rowC D ++ (rowC [] ++ [pt nx, .int .i64 rd]))).length = 52 := by simp [rowC_len, hA, hD]
      rw [rowC_len, List.length_replicate] at hj
      rw [List.getElem?_eq_getElem (by rw [hl]; omega)]; rfl) (fun j hj => hb.frozen _) (rowC_one _)
  refine wpList_plain hg fun K hK => ?_
  have hz : ∀ w, (zeroValue 60).run Try.prog w = .ok (.agg (slC z0).toArray) w := fun w => by
    have hz := zSl
    cases hi : Try.prog.info? 60 with
    | none => simp [hi] at hz
    | some i =>
      cases hq : i.zero with
      | none => simp [hi, hq] at hz
      | some z =>
        have hc : z.cells = (slC z0).toArray := by simpa [hi, hq] using hz
        have hz2 : (Try.prog.info? 60).map (·.zero) = some (some (.agg (slC z0).toArray)) := by kernel_rfl
        rw [hi] at hz2
        simp only [Option.map_some, Option.some.injEq] at hz2
        simp [zeroValue, typeInfo, hi, hz2]
  have hs8 : sad b 8 = ⟨b, 26, none⟩ := by rw [sad_lt (by decide)]
  have hst' : (storeCells ⟨b, 26, none⟩ (rowC (List.replicate 8 z0))).run Try.prog w = .ok () (w.setCells b 26 (rowC (List.replicate 8 z0))) := by simpa using hst
  have hr : (Builtin.clear_ #[78] o.type #[.slice (some ⟨b, 26, none⟩) 8 8]).run Try.prog w = .ok (.tuple #[]) (w.setCells b 26 (rowC (List.replicate 8 z0))) := by
    obtain ⟨ZZ, hZZ⟩ : ∃ ZZ, rowC (List.replicate 8 z0) = ZZ := ⟨_, rfl⟩
    rw [hZZ] at hst' ⊢
    have hz8 : (Builtin.zeroCells (slC z0).toArray 8).toList = ZZ := zc8.trans hZZ
    simp [Builtin.clear_, run_underlying Try.underlying78, hz, Value.cells, hz8, hst']
  unfold Oper.wp execOp
  simp only [ho, resolve, invoke, builtin, Sem.run_bind, Sem.run_pure, Result.andThen_ok, List.map_toArray, List.map_cons, List.map_nil, hx, hs8, hr]
  refine hK _ _ (h _ ?_ (grown_setCells b _ 26 w))
  have h2 := Blk.setCells (rowC [] ++ [pt nx, .int .i64 rd]) (rowC (List.replicate 8 z0)) (rowC D) ([Value.int .i64 lv, .int .i64 cnt] ++ rowC A) w (by rw [rowC_len, rowC_len, hD, List.length_replicate]) hb
  rw [pre_len, hA] at h2
  rw [← nR_mid] at h2
  simpa using h2
theorem nC_next (lv : Int) (ss : List Sl) (nx nx' : Option Nat) (rd : Int) (h : ss.length ≤ 16) : (nC lv ss nx rd).set 50 (pt nx') = nC lv ss nx' rd := by
  unfold nC
  rw [List.set_append_right _ _ (by simp), List.set_append_right _ _ (by rw [rowC_len, pad_len h]; simp)]
  simp [rowC_len, pad_len h]
theorem pad8 {A : List Sl} (h : A.length = 8) : pad A = A ++ List.replicate 8 z0 := by unfold pad; rw [h]
theorem pad16 {A : List Sl} (h : A.length = 16) : pad A = A := by unfold pad; rw [h]; simp
set_option maxRecDepth 8000 in
set_option maxHeartbeats 1000000 in
theorem split_any (g b : Nat) (rt : Option Nat) (n nd : Nat) (hnd : nd < 1000000000) (lv : Int) (A D : List Sl) (hA : A.length = 8) (hD : D.length = 8) (nx : Option Nat) (rd : Int) (w : World) (hT : Blk w g 55 (tC rt n nd)) (h : Nd w b lv (A ++ D) nx rd) (hgb : g ≠ b) :
    Calls Try.prog 61 #[.pointer (some ⟨g, 0, none⟩), .pointer (some ⟨b, 0, none⟩)] w fun e w' => ∃ r, e = .returned (.pointer (some ⟨r, 0, none⟩)) ∧ Hid (Blk w' g 55 (tC rt n (nd + 1)) ∧ Nd w' b lv A (if lv = 0 then some r else nx) rd ∧ Nd w' r lv D (if lv = 0 then nx else none) 0 ∧ w.heap.size ≤ r ∧ Upd [g, b] w w') := by
  have HAD : Hid (A.length = 8 ∧ D.length = 8) := ⟨hA, hD⟩
  have HT0 : Hid (Blk w g 55 (tC rt n nd)) := hT
  have HN0 : Hid (Nd w b lv (A ++ D) nx rd) := h
  have c0 : w.cell? ⟨b, 0, none⟩ = some (.int .i64 lv) := h.level
  have hbl := h.lt
  have hgl := hT.lt
  have K := grow_any g rt n nd hnd lv w hT
  clear hT h hA hD
  go_enter Try.func61, Try.ntmps61
  go_wp2_with fail
  refine K.mono ?_
  clear K
  rintro e w1 ⟨r, rfl, H⟩
  obtain ⟨h1, h2, h3, h4⟩ := H.out
  have HT : Hid (Blk w1 g 55 (tC rt n (nd + 1))) := h1
  have HN : Hid (Nd w1 b lv (A ++ D) nx rd) := HN0.out.kept h4 (by simpa using Ne.symm hgb)
  have HR : Hid (Blk w1 r 71 (nR lv 0 (List.replicate 16 z0) none 0)) := h2.blk
  have HU : Hid (Upd [g, b] w w1) := (Upd.of_by h4).mono (by simp)
  have hr0 : w.heap.size ≤ r := h3
  have nrb : r ≠ b := by omega
  have nrg : r ≠ g := by omega
  clear h1 h2 h3 h4 H HT0 HN0 c0
  obtain ⟨C, hC⟩ : ∃ C : World → Prop, C = fun W => Below w1.heap.size w1 W := ⟨_, rfl⟩
  have CG : Hid (∀ w w', C w → Grow w w' → C w') := fun W W' h1 h2 => by rw [hC] at h1 ⊢; exact h1.trans (h2.mono h1.size)
  have CE : Hid (∀ W, C W → Below w1.heap.size w1 W) := fun W h => by rw [hC] at h; exact h
  have C0 : Hid (C { w1 with drawn := w1.drawn + 1 }) := by rw [hC]; exact Below.drew (Below.refl _ _)
  clear hC
  have FN : Hid (∀ W, C W → Nd W b lv (A ++ D) nx rd ∧ Blk W r 71 (nR lv 0 (List.replicate 16 z0) none 0) ∧ Blk W g 55 (tC rt n (nd + 1))) := fun W hW => ⟨HN.out.below (CE.out W hW) HN.out.lt, HR.out.below (CE.out W hW) HR.out.lt, HT.out.below (CE.out W hW) HT.out.lt⟩
  go_wp2_with fail
  refine region_grow [9, 12] (by kernel_rfl) ?_
  have hCp : ∀ p : Prop, (∀ W, C W → p) ↔ p := fun p => ⟨fun h => h _ C0.out, fun h _ _ => h⟩
  generalize ({ w1 with drawn := w1.drawn + 1 } : World) = y0 at *
  have hCq := anyw_p y0
  refine segF 12 [0] rfl (by kernel_rfl) whole_blind (by decide +kernel) ?_
  change wpQuiet _ _ _ _ (_ :: []) _
  repeat (first
    | go_big_quiet_skip
    | (go_big_quiet_want
       first
       | (go_big_quiet_op
          go_big_quiet_on)))
  refine wpQuiet_nil ?_
  clear hCq
  refine segR 4 [1, 2, 3, 4, 5, 6, 7, 8] rfl (by kernel_rfl) whole_blind CG.out C0.out (by kernel_rfl) ?_
  change wpQuiet _ _ _ _ (_ :: _ :: _ :: _ :: _ :: _ :: _ :: _ :: []) _
  repeat (first
    | go_big_quiet_skip
    | (go_big_quiet_want
       first
       | (refine q_sl0 (.tmp 15) rfl r rfl ?_
          simp only [Act.put, List.setIfInBounds_toArray, List.set_cons_zero, List.set_cons_succ]
          go_big_quiet_on)
       | (refine q_slf (.tmp 19) (.const (.int .i64 8)) rfl b 8 rfl rfl (by decide) ?_
          simp only [Act.put, List.setIfInBounds_toArray, List.set_cons_zero, List.set_cons_succ]
          go_big_quiet_on)
       | (go_big_quiet_op
          go_big_quiet_on)))
  refine wpQuiet_nil ?_
  refine one_ofR 3 rfl [9] (by kernel_rfl) (by simp) fun j hj => ?_
  obtain rfl := List.mem_singleton.1 hj
  refine ⟨_, rfl, (by rfl), fun y1 hy1 K hK => ?_⟩
  have C1 : Hid (C y1) := CG.out _ _ C0.out hy1
  clear hy1
  refine wp_cpn (.tmp 16) (.tmp 20) rfl r 0 b 8 8 (sad r 0) (sad b 8) 16 16 8 8 rfl rfl rfl (fun q => sad_lt (by decide)) (fun q => sad_lt (by decide)) lv 0 (List.replicate 16 z0) D none 0 (FN.out _ C1.out).2.1 HAD.out.2 (by simp) (fun j x hx => ?_) ?_
  · refine (FN.out _ C1.out).1.range (8 + j) x (pad_at ?_)
    rw [List.getElem?_append_right (by rw [HAD.out.1]; omega), HAD.out.1, Nat.add_sub_cancel_left]
    exact hx
  intro w2 B2 G2
  have C1E := CE.out _ C1.out
  have HR2 : Hid (Blk w2 r 71 (nR lv 0 (pad D) none 0)) := by show Blk _ _ _ _; rw [pad8 HAD.out.2]; simpa using B2
  have HN2 : Hid (Nd w2 b lv (A ++ D) nx rd) := (FN.out _ C1.out).1.kept G2 (by simpa using Ne.symm nrb)
  have HT2 : Hid (Blk w2 g 55 (tC rt n (nd + 1))) := (FN.out _ C1.out).2.2.kept G2 (by simpa using Ne.symm nrg)
  have HU2 : Hid (Upd [g, b] w w2) := (HU.out.trans (Upd.of_below [] C1E) (by simp)).trans (Upd.of_by G2) (by simp; omega)
  refine hK _ _ (.inl (by simp)) ?_
  clear hK K B2 G2 C0 C1 C1E hCp CE CG FN HN HR HT HU
  simp only [Act.put, List.setIfInBounds_toArray, List.set_cons_zero, List.set_cons_succ]
  have hCp : ∀ p : Prop, (∀ W, Anyw W → p) ↔ p := fun p => anyw_p w p
  refine loneR (C := Anyw) (i := 10) 2 rfl (by kernel_rfl) rfl rfl (fun _ _ _ _ => trivial) trivial ?_
  repeat (first
    | go_big_quiet_skip
    | (go_big_quiet_want
       first
       | (go_big_quiet_op
          go_big_quiet_on)))
  refine wpQuiet_nil ?_
  clear hCp
  have hCp : ∀ p : Prop, (∀ W, Anyw W → p) ↔ p := fun p => anyw_p w p
  refine loneR (C := Anyw) (i := 11) 1 rfl (by kernel_rfl) rfl rfl (fun _ _ _ _ => trivial) trivial ?_
  repeat (first
    | go_big_quiet_skip
    | (go_big_quiet_want
       first
       | (go_big_quiet_op
          go_big_quiet_on)))
  refine wpQuiet_nil ?_
  clear hCp
  refine one_ofR 0 rfl [12] (by kernel_rfl) (by simp) fun j hj => ?_
  obtain rfl := List.mem_singleton.1 hj
  refine ⟨_, rfl, (by rfl), fun y1 hy1 K hK => ?_⟩
  refine oper_st1 3 (.tmp 23) (.tmp 21) rfl r 1 71 _ (.int .i64 8) rfl rfl rfl rfl (by rw [nR_len]; omega) (HR2.out.grow hy1) s3' ?_
  intro w3 B3 G3
  rw [nR_cnt] at B3
  refine hK _ _ (.inl (by simp)) ?_
  clear hK K
  simp only [Act.put, List.setIfInBounds_toArray, List.set_cons_zero, List.set_cons_succ]
  refine doneR (by kernel_rfl) fun y3 hy => ?_
  have HR3 : Hid (Nd y3 r lv D none 0) := ⟨by rw [nC_nR, HAD.out.2]; exact B3.grow hy, by rw [HAD.out.2]; decide⟩
  have HN3 : Hid (Nd y3 b lv (A ++ D) nx rd) := ((HN2.out.below hy1 HN2.out.lt).kept G3 (by simpa using Ne.symm nrb)).below hy (by have := ((HN2.out.below hy1 HN2.out.lt).kept G3 (by simpa using Ne.symm nrb)).lt; exact this)
  have HT3 : Hid (Blk y3 g 55 (tC rt n (nd + 1))) := ((HT2.out.grow hy1).kept G3 (by simpa using Ne.symm nrg)).grow hy
  have HU3 : Hid (Upd [g, b] w y3) := ((HU2.out.trans (Upd.of_below [] hy1) (by simp)).trans (Upd.of_by G3) (by simp; omega)).trans (Upd.of_below [] hy) (by simp)
  clear B3 G3 hy hy1 HR2 HN2 HT2 HU2
  have HB3 : Hid (Blk y3 b 71 (nR lv 16 (A ++ D) nx rd)) := by
    have := HN3.out.blk
    rw [nC_nR, pad16 (by simp [HAD.out.1, HAD.out.2])] at this
    show Blk _ _ _ _
    simpa [HAD.out.1, HAD.out.2] using this
  clear HN3
  go_wp2_with (first
    | (refine sl_arr rfl (.tmp 26) (.const (.int .i64 8)) rfl b 8 rfl rfl (by decide) ?_)
    | (refine cl_half rfl (.tmp 27) rfl b rfl lv 16 A D HAD.out.1 HAD.out.2 nx rd HB3.out ?_))
  intro w4 B4 G4
  have HB4 : Hid (Blk w4 b 71 (nR lv 16 (A ++ List.replicate 8 z0) nx rd)) := B4
  have HR4 : Hid (Nd w4 r lv D none 0) := HR3.out.kept G4 (by simpa using nrb)
  have HT4 : Hid (Blk w4 g 55 (tC rt n (nd + 1))) := HT3.out.kept G4 (by simpa using hgb)
  have HU4 : Hid (Upd [g, b] w w4) := HU3.out.trans (Upd.of_by G4) (by simp)
  clear B4 G4 HB3 HR3 HT3 HU3
  go_wp2_with (refine st_one rfl 3 (.tmp 30) (.const (.int .i64 8)) rfl b 1 71 _ (.int .i64 8) rfl rfl rfl rfl (by rw [nR_len]; omega) HB4.out s3' ?_)
  intro w5 B5 G5
  rw [nR_cnt] at B5
  have HN5 : Hid (Nd w5 b lv A nx rd) := ⟨by rw [nC_nR, HAD.out.1, pad8 HAD.out.1]; exact B5, by rw [HAD.out.1]; decide⟩
  have HR5 : Hid (Nd w5 r lv D none 0) := HR4.out.kept G5 (by simpa using nrb)
  have HT5 : Hid (Blk w5 g 55 (tC rt n (nd + 1))) := HT4.out.kept G5 (by simpa using hgb)
  have HU5 : Hid (Upd [g, b] w w5) := HU4.out.trans (Upd.of_by G5) (by simp)
  have c0 : w5.cell? ⟨b, 0, none⟩ = some (.int .i64 lv) := HN5.out.level
  clear B5 G5 HB4 HR4 HT4 HU4
  by_cases hl : lv = 0
  · subst hl
    have c50 : w5.cell? ⟨b, 50, none⟩ = some (pt nx) := HN5.out.next
    go_wp2_with (refine st_one rfl 53 (.tmp 44) (.tmp 41) rfl r 50 71 _ (pt nx) rfl rfl rfl rfl (by rw [nC_len HR5.out.le]; decide) HR5.out.blk s53 ?_)
    intro w6 B6 G6
    rw [nC_next _ _ _ _ _ HR5.out.le] at B6
    have HR6 : Hid (Nd w6 r 0 D nx 0) := ⟨B6, HR5.out.le⟩
    have HN6 : Hid (Nd w6 b 0 A nx rd) := HN5.out.kept G6 (by simpa using Ne.symm nrb)
    have HT6 : Hid (Blk w6 g 55 (tC rt n (nd + 1))) := HT5.out.kept G6 (by simpa using Ne.symm nrg)
    have HU6 : Hid (Upd [g, b] w w6) := HU5.out.trans (Upd.of_by G6) (by simp; omega)
    clear B6 G6 HN5 HR5 HT5 HU5 c50 c0
    go_wp2_with (refine st_one rfl 53 (.tmp 46) (.tmp 42) rfl b 50 71 _ (.pointer (some ⟨r, 0, none⟩)) rfl rfl rfl rfl (by rw [nC_len HN6.out.le]; decide) HN6.out.blk s53 ?_)
    intro w7 B7 G7
    have B7' : Blk w7 b 71 ((nC 0 A nx rd).set 50 (pt (some r))) := B7
    rw [nC_next _ _ _ _ _ HN6.out.le] at B7'
    have HE : Hid (Blk w7 g 55 (tC rt n (nd + 1)) ∧ Nd w7 b 0 A (some r) rd ∧ Nd w7 r 0 D nx 0 ∧ w.heap.size ≤ r ∧ Upd [g, b] w w7) := ⟨HT6.out.kept G7 (by simpa using hgb), ⟨B7', HN6.out.le⟩, HR6.out.kept G7 (by simpa using nrb), hr0, HU6.out.trans (Upd.of_by G7) (by simp)⟩
    clear B7 B7' G7 HN6 HR6 HT6 HU6
    go_wp2
    go_ret
    exact ⟨r, rfl, HE.out⟩
  · have hlb : (lv == 0) = false := beq_eq_false_iff_ne.2 hl
    have HE : Hid (Blk w5 g 55 (tC rt n (nd + 1)) ∧ Nd w5 b lv A nx rd ∧ Nd w5 r lv D none 0 ∧ w.heap.size ≤ r ∧ Upd [g, b] w w5) := ⟨HT5.out, HN5.out, HR5.out, hr0, HU5.out⟩
    clear HN5 HR5 HT5 HU5
    go_wp2
    go_ret
    exact ⟨r, rfl, HE.out⟩
/-- What becomes of a full node. -/
def InsF (w w' : World) (g b r : Nat) (rt : Option Nat) (n nd : Nat) (lv : Int) (S : List Sl) (i : Nat) (s : Sl) (nx : Option Nat) (rd : Int) : Prop := ∃ L R, Blk w' g 55 (tC rt n (nd + 1)) ∧ Nd w' b lv L (if lv = 0 then some r else nx) rd ∧ Nd w' r lv R (if lv = 0 then nx else none) 0 ∧ L ++ R = S.take i ++ s :: S.drop i ∧ 8 ≤ L.length ∧ 8 ≤ R.length ∧ w.heap.size ≤ r ∧ Upd [g, b] w w'
set_option maxHeartbeats 1000000 in
theorem insert_full (g b : Nat) (rt : Option Nat) (n nd : Nat) (hnd : nd < 1000000000) (lv : Int) (S : List Sl) (hS : S.length = 16) (nx : Option Nat) (rd : Int) (i : Nat) (hi : i ≤ 16) (s : Sl) (w : World) (hT : Blk w g 55 (tC rt n nd)) (h : Nd w b lv S nx rd) (hgb : g ≠ b) :
    Calls Try.prog 55 #[.pointer (some ⟨g, 0, none⟩), .pointer (some ⟨b, 0, none⟩), .int .i64 (i : Int), .agg (slC s).toArray] w fun e w' => ∃ r, e = .returned (.pointer (some ⟨r, 0, none⟩)) ∧ Hid (InsF w w' g b r rt n nd lv S i s nx rd) := by
  have HN : Hid (Nd w b lv S nx rd) := h
  have HT : Hid (Blk w g 55 (tC rt n nd)) := hT
  have HS : Hid (S.length = 16) := hS
  have hbl := h.lt
  have hgl := hT.lt
  clear h hT hS
  go_enter Try.func55, Try.ntmps55
  go_wp2_with (refine al_box rfl 60 (.tmp 3) rfl (slC s) rfl ?_)
  intro g7 w1 l1 B1 G0
  have HN1 : Hid (Nd w1 b lv S nx rd) := HN.out.kept G0 (by simp)
  have HT1 : Hid (Blk w1 g 55 (tC rt n nd)) := HT.out.kept G0 (by simp)
  have HU1 : Hid (Upd [g, b] w w1) := Upd.of_none _ G0
  have HB1 : Hid (Blk w1 g7 60 (slC s)) := B1
  have c1 : w1.cell? ⟨b, 1, none⟩ = some (.int .i64 16) := by have := HN1.out.count; rw [HS.out] at this; exact this
  have hsz : w.heap.size ≤ w1.heap.size := G0.size
  have K := split_any g b rt n nd hnd lv (S.take 8) (S.drop 8) (by rw [List.length_take, HS.out]; rfl) (by rw [List.length_drop, HS.out]) nx rd w1 HT1.out (by rw [List.take_append_drop]; exact HN1.out) hgb
  clear G0 B1 HN HT
  go_wp2_with fail
  refine K.mono ?_
  clear K
  rintro e w2 ⟨r, rfl, H⟩
  obtain ⟨h1, h2, h3, h4, h5⟩ := H.out
  have HB2 : Hid (Blk w2 g7 60 (slC s)) := HB1.out.upd h5 (by simp; omega)
  have HU2 : Hid (Upd [g, b] w w2) := HU1.out.trans h5 (by simp)
  have hg7 : g7 < w1.heap.size := HB1.out.lt
  clear HB1 HU1 c1 H HN1 HT1 h5
  have HA : Hid ((S.take 8).length = 8 ∧ (S.drop 8).length = 8) := ⟨by rw [List.length_take, HS.out]; rfl, by rw [List.length_drop, HS.out]⟩
  have HA1 := HA.out.1
  have HA2 := HA.out.2
  have HN2 : Hid (Nd w2 b lv (S.take 8) (if lv = 0 then some r else nx) rd) := h2
  have HR2 : Hid (Nd w2 r lv (S.drop 8) (if lv = 0 then nx else none) 0) := h3
  have HT2 : Hid (Blk w2 g 55 (tC rt n (nd + 1))) := h1
  clear h1 h2 h3
  obtain ⟨nx1, hx1⟩ : ∃ q, Hid ((if lv = 0 then some r else nx) = q) := ⟨_, rfl⟩
  obtain ⟨nx2, hx2⟩ : ∃ q, Hid ((if lv = 0 then nx else none) = q) := ⟨_, rfl⟩
  rw [hx1.out] at HN2
  rw [hx2.out] at HR2
  by_cases hi8 : i ≤ 8
  · have hi8' : (i : Int) ≤ 8 := by omega
    have K := lay_any b lv ((S.take 8).take i) ((S.take 8).drop i) nx1 rd i (by rw [List.length_take, HA1]; omega) s w2 (by rw [List.take_append_drop]; exact HN2.out) (by rw [List.take_append_drop, HA1]; decide)
    clear HA1 HA2
    go_wp2_with (refine ld_w (by rfl) 60 (.tmp 7) rfl g7 0 rfl (slC s) _ HB2.out.all Try.underlying60 rfl (sSl s) ?_)
    refine K.mono ?_
    clear K
    rintro e w3 ⟨rfl, H⟩
    have HE : Hid (InsF w w3 g b r rt n nd lv S i s nx rd) := by
      refine ⟨_, _, HT2.out.kept H.out.2 (by simpa using hgb), by rw [hx1.out]; exact H.out.1, by rw [hx2.out]; exact HR2.out.kept H.out.2 (by simp; omega), ?_, ?_, by rw [HA.out.2]; decide, by omega, HU2.out.trans (Upd.of_by H.out.2) (by simp)⟩
      · have e1 : (S.take 8).take i = S.take i := by rw [List.take_take]; congr 1; omega
        have e2 : (S.take 8).drop i ++ S.drop 8 = S.drop i := by
          have h8 : S.drop 8 = (S.drop i).drop (8 - i) := by rw [List.drop_drop]; congr 1; omega
          rw [List.drop_take, h8, List.take_append_drop]
        rw [e1, List.append_assoc, List.cons_append, e2]
      · have := HA.out.1
        simp only [List.length_append, List.length_cons, List.length_take, List.length_drop] at this ⊢
        omega
    clear H HB2 HU2 HT2 HN2 HR2
    go_wp2
    go_ret
    exact ⟨r, rfl, HE.out⟩
  · have hi8' : ¬ (i : Int) ≤ 8 := by omega
    have e1 : wrap64 ((i : Int) - 8) = ((i - 8 : Nat) : Int) := wrap_small (by omega) (by omega)
    have e2 : (i : Int) - 8 = ((i - 8 : Nat) : Int) := by omega
    have K := lay_any r lv ((S.drop 8).take (i - 8)) ((S.drop 8).drop (i - 8)) nx2 0 (i - 8) (by rw [List.length_take, HA2]; omega) s w2 (by rw [List.take_append_drop]; exact HR2.out) (by rw [List.take_append_drop, HA2]; decide)
    rw [← e2] at K
    clear HA1 HA2 e2
    go_wp2_with (refine ld_w (by rfl) 60 (.tmp 7) rfl g7 0 rfl (slC s) _ HB2.out.all Try.underlying60 rfl (sSl s) ?_)
    refine K.mono ?_
    clear K
    rintro e w3 ⟨rfl, H⟩
    have HE : Hid (InsF w w3 g b r rt n nd lv S i s nx rd) := by
      refine ⟨_, _, HT2.out.kept H.out.2 (by simp; omega), by rw [hx1.out]; exact HN2.out.kept H.out.2 (by simp; omega), by rw [hx2.out]; exact H.out.1, ?_, by rw [HA.out.1]; decide, ?_, by omega, HU2.out.trans (Upd.of_by H.out.2) (by simp; omega)⟩
      · have e3 : S.take i = S.take 8 ++ (S.drop 8).take (i - 8) := by rw [show i = 8 + (i - 8) by omega, List.take_add]; simp
        have e4 : (S.drop 8).drop (i - 8) = S.drop i := by rw [List.drop_drop]; congr 1; omega
        rw [e3, e4, List.append_assoc]
      · have := HA.out.2
        simp only [List.length_append, List.length_cons, List.length_take, List.length_drop] at this ⊢
        omega
    clear H HB2 HU2 HT2 HN2 HR2
    go_wp2
    go_ret
    exact ⟨r, rfl, HE.out⟩
#print axioms split_any
#print axioms insert_full
end Go.Proofs.Yteokjfpppmnebaa
