/-
  rise: the leaves are gone through, from one text on, up to another one.
-/
import Derived.Test.YteokjfpppmnebaaIa
import Derived.Test.YteokjfpppmnebaaIb
import Derived.Test.YteokjfpppmnebaaIo
import Derived.Test.YteokjfpppmnebaaQa
import Derived.Sort.QuietThIn
import Derived.Sort.BigQuietIn
import Derived.Sort.LoopGhostIn
import Derived.Deep.LoopGhost
namespace Go.Proofs.Yteokjfpppmnebaa
open Go.RowKit Go.Shelf
set_option linter.unusedVariables false
set_option linter.unusedSimpArgs false
attribute [local go_sem] Oper.semAt_some
theorem wd {n : Nat} : Fence.wide.depth.isSome = true → 1 ≤ n := fun h => by cases h
def over (to s : ByteArray) : Bool := !to.toList.isEmpty && !(blt s to)
def upto (to : ByteArray) (L : List E) : List E := L.takeWhile fun e => !over to e.1
theorem upto_nil (to : ByteArray) : upto to [] = [] := rfl
theorem upto_stop {to : ByteArray} {e : E} {r : List E} (h : over to e.1 = true) : upto to (e :: r) = [] := by
  unfold upto; rw [List.takeWhile_cons]; simp [h]
theorem upto_go {to : ByteArray} {e : E} {r : List E} (h : over to e.1 = false) : upto to (e :: r) = e :: upto to r := by
  unfold upto; rw [List.takeWhile_cons]; simp [h]
theorem bo_geq (t : TypeId) (a b : ByteArray) : binOp .geq t (.string a) (.string b) = pure (.bool (!Op.bytesLess a.toList b.toList)) := by simp [binOp, Op.stringOp]
theorem bo_leq (t : TypeId) (a b : ByteArray) : binOp .leq t (.string a) (.string b) = pure (.bool (Op.bytesLess a.toList b.toList || a.toList == b.toList)) := by simp [binOp, Op.stringOp]
attribute [local go_sem] bo_geq bo_leq
/-- What is left to hand on, and where. -/
structure RI (w wr : World) (l : Nat) (t : B) (N : Nat → Prop) (to : ByteArray) (J : List E → World → Prop) (xs : List E) (ls : List LB) (j : Nat) (pre : List E) : Prop where
  lc : LC w ls none
  sub : ∀ x ∈ ls, N x.1 ∧ ∀ e ∈ x.2, e.1.size ≤ 281474976710656
  hd : ∀ x r, ls = x :: r → j ≤ x.2.length
  eq : xs = pre ++ upto to ((lfes ls).drop j)
  jj : J pre wr
  bl : Kp N w wr
/-- The same within a leaf. -/
structure II (w wr : World) (N : Nat → Prop) (to : ByteArray) (J : List E → World → Prop) (xs xe : List E) (q : List LB) (j : Nat) (pre : List E) : Prop where
  eq : xs = pre ++ upto to (xe.drop j ++ lfes q)
  jj : J pre wr
  bl : Kp N w wr
set_option maxRecDepth 8000 in
set_option maxHeartbeats 1000000 in
theorem rise_any (m l : Nat) (t : B) (rd : Int) (frm to : ByteArray) (N : Nat → Prop) (r lp : Nat) (J Jx : List E → World → Prop) (w : World) (hM : Mem w l t none rd) (ho : Ok l t) (hN : ∀ x ∈ fps l t, N x)
    (hsz : ∀ e ∈ ents l t, e.1.size ≤ 281474976710656) (hJ : Abid r J) (hJx : Abid r Jx) (xs : List E) (hxs : xs = upto to ((ents l t).drop (pos l t frm)))
    (hY : ∀ k pre x W1, J pre W1 → (∃ post, xs = pre ++ x :: post) → RoundT k lp N J Jx pre x W1) (h0 : J [] w) :
    CallsIn Fence.wide m Try.prog 37 #[.pointer (some ⟨t.bk, 0, none⟩), .string frm, .string to, .func (.yield lp) #[] #[]] w fun e w' => e = .returned (.tuple #[]) ∧ Hid (Kp N w w' ∧ (J xs w' ∨ ∃ pre x post, xs = pre ++ x :: post ∧ Jx (pre ++ [x]) w')) := by
  obtain ⟨X, b, es, Y, e1, e2, e3⟩ := way frm ho
  have hLC := (lc_app.1 (e1 ▸ lc_of hM ho)).2
  obtain ⟨⟨rd1, hNd⟩, hLr⟩ := hLC
  have K1 := leaf_any l t none rd frm w hM ho
  rw [e2] at K1
  rw [show (B.lf b es).bk = b from rfl] at K1
  have HL : Hid (LC w ((b, es) :: Y) none) := ⟨⟨rd1, hNd⟩, hLr⟩
  have HS : Hid (∀ x ∈ (b, es) :: Y, N x.1 ∧ ∀ e ∈ x.2, e.1.size ≤ 281474976710656) := fun x hx => by
    have hx' : x ∈ leaves l t := by rw [e1]; exact List.mem_append_right _ hx
    refine ⟨hN _ (leaf_fps hx'), fun e he => hsz e ?_⟩
    rw [ents_leaves]
    exact List.mem_flatMap.2 ⟨x, hx', he⟩
  obtain ⟨i0, Hi0⟩ : ∃ i, Hid (sk (es.map sE) frm = i) := ⟨_, rfl⟩
  have HX : Hid (xs = upto to ((lfes ((b, es) :: Y)).drop i0)) := by
    show _ = _
    rw [hxs, ents_leaves, e1, e3, Hi0.out, lfes_app, List.drop_append, List.drop_of_length_le (by omega), List.nil_append, Nat.add_sub_cancel_left]
  have HI : Hid (i0 ≤ es.length) := by have := sk_le (es.map sE) frm; rw [Hi0.out] at this; show i0 ≤ es.length; simpa using this
  have HJ : Hid (Abid r J ∧ Abid r Jx ∧ (∀ k pre x W1, J pre W1 → (∃ post, xs = pre ++ x :: post) → RoundT k lp N J Jx pre x W1) ∧ J [] w) := ⟨hJ, hJx, hY, h0⟩
  have HSK : Hid (∀ W, Below w.heap.size w W → Calls Try.prog 43 #[.pointer (some ⟨b, 0, none⟩), .string frm] W fun e w' => e = .returned (.tuple #[.int .i64 (i0 : Int), .bool (hit (es.map sE) frm)]) ∧ Hid (Below W.heap.size W w')) := fun W hW => by
    have := seek_any b 0 (es.map sE) (nxl Y none) rd1 frm W (hNd.below hW hNd.lt)
    rw [Hi0.out] at this
    exact this
  refine callsIn_wide.2 ?_
  clear hM ho hN hsz hJ hJx hxs hY h0 e1 e2 e3 hNd hLr Hi0
  obtain ⟨hb, Hhb⟩ : ∃ hb, hit (es.map sE) frm = hb := ⟨_, rfl⟩
  rw [Hhb] at HSK
  clear Hhb
  obtain ⟨tb, Htb⟩ : ∃ tb, t.bk = tb := ⟨_, rfl⟩
  rw [Htb] at K1 ⊢
  clear Htb
  go_enter Try.func37, Try.ntmps37
  go_wp2_with fail
  refine K1.mono ?_
  clear K1
  rintro e w1 ⟨rfl, H1⟩
  go_wp2_with fail
  refine (HSK.out _ H1.out).mono ?_
  rintro e w2 ⟨rfl, H2⟩
  have HB2 : Hid (Below w.heap.size w w2) := H1.out.trans (H2.out.mono H1.out.size)
  clear H1 H2 HSK
  go_wp2_with fail
  go_loopg [8, 9] (Y.length + 1) (fun k p i wr => ∃ (ls : List LB) (j : Nat) (pre : List E), Hid (ls.length = k) ∧ p = pt (nxl ls none) ∧ i = .int .i64 (j : Int) ∧ Hid (RI w wr l t N to J xs ls j pre))
  case atStart =>
    refine ⟨(b, es) :: Y, i0, [], rfl, rfl, rfl, HL.out, HS.out, fun x r e => ?_, by rw [HX.out]; rfl, HJ.out.1 _ _ _ HJ.out.2.2.2 (by_below HB2.out _), Kp.of_below HB2.out⟩
    injection e with e1 e2
    subst e1
    exact HI.out
  case round =>
    clear HL HS HX HI HB2
    obtain ⟨ls, j, pre, Hk, rfl, rfl, HR⟩ := hrel
    cases ls with
    | nil =>
      have HE : Hid (xs = pre) := by have := HR.out.eq; show xs = pre; simpa [lfes, upto] using this
      have HF : Hid (J pre wr ∧ Kp N w wr) := ⟨HR.out.jj, HR.out.bl⟩
      clear HR Hk
      simp only [nxl, pt]
      go_wp2
      go_end0
      exact ⟨rfl, HF.out.2, .inl (by rw [HE.out]; exact HF.out.1)⟩
    | cons x q =>
      obtain ⟨xb, xe⟩ := x
      obtain ⟨⟨rdx, hNx⟩, hLq⟩ := HR.out.lc
      have hxN : N xb := (HR.out.sub (xb, xe) (by simp)).1
      have HN : Hid (∀ W, Kp N w W → Nd W xb 0 (xe.map sE) (nxl q none) rdx) := fun W g => hNx.kp g hxN
      have hj : j ≤ xe.length := HR.out.hd _ _ rfl
      have hc16 : xe.length ≤ 16 := by have := hNx.le; simpa using this
      have HQ : Hid (RI w wr l t N to J xs ((xb, xe) :: q) j pre ∧ LC w q none) := ⟨HR.out, hLq⟩
      have HB : Hid (Kp N w wr) := HR.out.bl
      clear HR hLq hNx
      simp only [nxl, pt, Option.map_some]
      obtain ⟨n, Hn⟩ : ∃ n, Hid (xe.length - j = n) := ⟨_, rfl⟩
      have hcl : xe.length = j + n := by have := Hn.out; omega
      have HII : Hid (II w wr N to J xs xe q j pre) := by
        refine ⟨?_, HQ.out.1.jj, HQ.out.1.bl⟩
        have := HQ.out.1.eq
        rw [lfes_cons, List.drop_append_of_le_length hj] at this
        exact this
      have HK : Hid (LC w q none ∧ (∀ x ∈ q, N x.1 ∧ ∀ e ∈ x.2, e.1.size ≤ 281474976710656) ∧ (∀ e ∈ xe, e.1.size ≤ 281474976710656) ∧ xe.length = j + n ∧ q.length + 1 = gk ∧ j + n ≤ 16) := ⟨HQ.out.2, fun x hx => HQ.out.1.sub x (by simp [hx]), (HQ.out.1.sub (xb, xe) (by simp)).2, hcl, Hk.out, by omega⟩
      obtain ⟨C, hC⟩ : ∃ C : World → Prop, C = fun W => Below wr.heap.size wr W := ⟨_, rfl⟩
      have C0 : Hid (C { wr with drawn := wr.drawn + 1 }) := by rw [hC]; exact Below.drew (Below.refl _ _)
      have CO : Hid (∀ W, C W → Below wr.heap.size wr W) := fun W g => by rw [hC] at g; exact g
      have F1 : Hid (∀ W, C W → W.cell? ⟨xb, 1, none⟩ = some (.int .i64 ((j + n : Nat) : Int))) := fun W hW => by
        have h1 := (HN.out wr HB.out).below (CO.out W hW) (HN.out wr HB.out).lt
        have := h1.count
        rw [List.length_map, HK.out.2.2.2.1] at this
        exact this
      have hjn : j ≤ j + n := Nat.le_add_right _ _
      have h16 : j + n ≤ 16 := by omega
      obtain ⟨sa, Hsa⟩ : ∃ sa, Hid (sad xb j = sa) := ⟨_, rfl⟩
      have HG0 : Hid (q.length < gk) := by have := Hk.out; simp only [List.length_cons] at this; show _ < _; omega
      obtain ⟨np, Hnp⟩ : ∃ np, pt (nxl q none) = np := ⟨_, rfl⟩
      clear hC hcl hc16 hj HQ Hn Hk
      go_wp2_with fail
      have hCp : ∀ p : Prop, (∀ W, C W → p) ↔ p := fun p => ⟨fun h => h _ C0.out, fun h _ _ => h⟩
      refine wp_region_quiet (C := C) (by kernel_rfl) (by kernel_rfl) C0.out ?_
      change wpQuiet _ _ _ _ (_ :: _ :: _ :: _ :: _ :: _ :: _ :: _ :: _ :: _ :: _ :: []) _
      repeat (first
        | go_big_quiet_skip
        | (go_big_quiet_want
           first
           | (refine q_cell 3 (.inl rfl) (.tmp 34) rfl xb 1 rfl _ F1.out ?_
              simp only [Act.put, List.setIfInBounds_toArray, List.set_cons_zero, List.set_cons_succ]
              go_big_quiet_on)
           | (refine q_slb (.tmp 30) (.tmp 31) (.tmp 35) rfl xb j (j + n) rfl rfl rfl hjn h16 ?_
              rw [Nat.add_sub_cancel_left, Hsa.out]
              simp only [Act.put, List.setIfInBounds_toArray, List.set_cons_zero, List.set_cons_succ]
              go_big_quiet_on)
           | (go_big_quiet_op
              go_big_quiet_on)))
      refine wpQuiet_nil ?_
      intro w9 h9
      have HB9 : Hid (Below wr.heap.size wr w9) := CO.out _ h9
      have HI9 : Hid (II w w9 N to J xs xe q j pre) := ⟨HII.out.eq, HJ.out.1 _ _ _ HII.out.jj (by_below HB9.out _), HII.out.bl.trans (Kp.of_below HB9.out)⟩
      clear h9 hCp C0 CO F1 HII HB
      go_wp2_with fail
      go_loopg [38] (n + 1) (fun k i wq => ∃ (d : Nat) (p2 : List E), Hid (d + k = n + 1) ∧ d ≤ n ∧ i = .int .i64 (d : Int) ∧ Hid (II w wq N to J xs xe q (j + d) p2))
      case atStart => exact ⟨0, pre, by simp [Hid], Nat.zero_le _, rfl, HI9.out⟩
      case round =>
        clear HI9 HB9
        obtain ⟨d, p2, Hd, hdn, rfl, HR⟩ := hrel
        by_cases hd : d < n
        case neg =>
          obtain rfl : d = n := by omega
          have HR2 : Hid (∀ W, Below wr.heap.size wr W → RI w W l t N to J xs q 0 p2) := fun W g => by
            have hg : Kp N wr W := Kp.of_below g
            refine ⟨HK.out.1, HK.out.2.1, fun x r e => Nat.zero_le _, ?_, HJ.out.1 _ _ _ HR.out.jj (by_below g _), HR.out.bl.trans hg⟩
            have := HR.out.eq
            rw [← HK.out.2.2.2.1, List.drop_length, List.nil_append] at this
            rw [this]; rfl
          have cn : wr.cell? ⟨xb, 50, none⟩ = some np := by rw [← Hnp]; exact (HN.out wr HR.out.bl).next
          have HG := HG0
          clear HR HN HK Hsa hjn h16 Hd hdn
          go_wp2
          go_roundg (q.length)
          case measure => exact HG.out
          case rel => exact ⟨q, 0, p2, rfl, Hnp.symm, rfl, HR2.out _ (Below.refl _ _)⟩
        have hjd : j + d < xe.length := by rw [HK.out.2.2.2.1]; omega
        obtain ⟨x, hx⟩ : ∃ x, xe[j + d]? = some x := ⟨_, List.getElem?_eq_getElem hjd⟩
        have HXE : Hid (xs = p2 ++ upto to (x :: (xe.drop (j + (d + 1)) ++ lfes q))) := by
          have := HR.out.eq
          rw [List.drop_eq_getElem_cons hjd, (List.getElem?_eq_some_iff.1 hx).2] at this
          exact this
        have hxz : x.1.size ≤ 281474976710656 := HK.out.2.2.1 x (List.mem_of_getElem? hx)
        have hj16 : j < 16 := by have := HK.out.2.2.2.2.2; omega
        have HC : Hid (wr.rangeAt xb (2 + j * 3 + d * 3) (slC (sE x))) := by
          have := (HN.out wr HR.out.bl).rows (j + d) (sE x) (by rw [List.getElem?_map, hx]; rfl)
          rw [show 2 + j * 3 + d * 3 = 2 + (j + d) * 3 by omega]
          exact this
        have hsa : sa = ⟨xb, 2 + j * 3, none⟩ := by rw [← Hsa.out, sad_lt hj16]
        subst hsa
        clear hjd hx Hsa
        go_wp2_with (first
          | (refine ld_w (by rfl) 60 (.tmp 40) rfl xb (2 + j * 3 + d * 3) rfl (slC (sE x)) _ HC.out Try.underlying60 rfl (sSl (sE x)) ?_)
          | (refine al_zero rfl 60 rfl (slC z0) zSl ?_))
        intro g w4 l4 B4 G4
        go_wp2_with (refine st_all rfl 60 (.tmp 12) (.tmp 41) rfl g 60 (slC z0) (slC (sE x)) rfl rfl B4 rfl (sSl (sE x)) (slC_one _) ?_)
        intro w5 B5 G5
        have HB5 : Hid (Below wr.heap.size wr w5) := ((Below.refl wr.heap.size wr).grown G4 (Nat.le_refl _) (by simp)).grown G5 G4.size (fun k e => by injection e with e; omega)
        have HGB : Hid (Blk w5 g 60 (slC (sE x))) := B5
        clear B4 G4 B5 G5 HC
        have HI5 : Hid (II w w5 N to J xs xe q (j + d) p2) := ⟨HR.out.eq, HJ.out.1 _ _ _ HR.out.jj (by_below HB5.out _), HR.out.bl.trans (Kp.of_below HB5.out)⟩
        clear HR l4
        by_cases hov : over to x.1 = true
        · obtain ⟨C, hC⟩ : ∃ C : World → Prop, C = fun W => Below w5.heap.size w5 W := ⟨_, rfl⟩
          have C0 : Hid (C { w5 with drawn := w5.drawn + 1 }) := by rw [hC]; exact Below.drew (Below.refl _ _)
          have CO : Hid (∀ W, C W → Below w5.heap.size w5 W) := fun W g => by rw [hC] at g; exact g
          have F1 : Hid (∀ W, C W → W.cell? ⟨g, 0, none⟩ = some (.string x.1)) := fun W hW => (HGB.out.below (CO.out W hW) HGB.out.lt).cell 0
          have HXS : Hid (xs = p2) := by
            have := HXE.out
            rw [upto_stop hov, List.append_nil] at this
            exact this
          unfold over at hov
          rw [Bool.and_eq_true, Bool.not_eq_true', Bool.not_eq_true'] at hov
          obtain ⟨h1, h2⟩ := hov
          unfold blt at h2
          clear hC HXE
          go_wp2_with fail
          have hCp : ∀ p : Prop, (∀ W, C W → p) ↔ p := fun p => ⟨fun h => h _ C0.out, fun h _ _ => h⟩
          refine wp_region_quiet (C := C) (by kernel_rfl) (by kernel_rfl) C0.out ?_
          change wpQuiet _ _ _ _ (_ :: _ :: _ :: _ :: _ :: _ :: _ :: _ :: _ :: _ :: _ :: _ :: _ :: _ :: _ :: _ :: _ :: _ :: []) _
          repeat (first
            | go_big_quiet_skip
            | (go_big_quiet_want
               first
               | (refine q_cell 9 (.inr (.inl rfl)) (.tmp 45) rfl g 0 rfl _ F1.out ?_
                  simp only [Act.put, List.setIfInBounds_toArray, List.set_cons_zero, List.set_cons_succ]
                  go_big_quiet_on)
               | (go_big_quiet_op
                  go_big_quiet_on)))
          refine wpQuiet_nil ?_
          intro w9 h9
          have HE : Hid (Kp N w w9 ∧ J xs w9) := by
            have hb := CO.out _ h9
            rw [HXS.out]
            exact ⟨HI5.out.bl.trans (Kp.of_below hb), HJ.out.1 _ _ _ HI5.out.jj (by_below hb _)⟩
          clear h9 hCp C0 CO F1 HXS
          go_wp2
          exact bodyPost_ret (results_none rfl _ _ _) rfl ⟨rfl, HE.out.1, .inl HE.out.2⟩
        have hov : over to x.1 = false := by simpa using hov
        have HXS : Hid (xs = p2 ++ x :: upto to (xe.drop (j + (d + 1)) ++ lfes q)) := by
          have := HXE.out
          rw [upto_go hov] at this
          exact this
        obtain ⟨C, hC⟩ : ∃ C : World → Prop, C = fun W => Below w5.heap.size w5 W := ⟨_, rfl⟩
        have C0 : Hid (C { w5 with drawn := w5.drawn + 1 }) := by rw [hC]; exact Below.drew (Below.refl _ _)
        have CO : Hid (∀ W, C W → Below w5.heap.size w5 W) := fun W g => by rw [hC] at g; exact g
        have CM : Hid (∀ W, Below w5.heap.size w5 W → C W) := fun W g => by rw [hC]; exact g
        have F1 : Hid (∀ W, C W → W.cell? ⟨g, 0, none⟩ = some (.string x.1)) := fun W hW => (HGB.out.below (CO.out W hW) HGB.out.lt).cell 0
        have F2 : Hid (∀ W, C W → W.cell? ⟨g, 1, none⟩ = some (.int .i64 x.2)) := fun W hW => (HGB.out.below (CO.out W hW) HGB.out.lt).cell 1
        have HRD : Hid (∀ k W, C W → RoundT k lp N J Jx p2 x W) := fun k W g => HJ.out.2.2.1 k p2 x W (HJ.out.1 _ _ _ HI5.out.jj (by_below (CO.out W g) _)) ⟨_, HXS.out⟩
        clear HXE hC
        have hcase : (to.toList.isEmpty = true) ∨ (to.toList.isEmpty = false ∧ Op.bytesLess x.1.toList to.toList = true) := by
          unfold over blt at hov
          cases h1 : to.toList.isEmpty <;> cases h2 : Op.bytesLess x.1.toList to.toList <;> simp_all
        clear hov
        rcases hcase with h1 | ⟨h1, h2⟩
        all_goals
          go_wp2_with fail
          refine region_I C 15 7 (by kernel_rfl) ?_
          have hCp : ∀ p : Prop, (∀ W, C W → p) ↔ p := fun p => ⟨fun h => h _ C0.out, fun h _ _ => h⟩
          generalize ({ w5 with drawn := w5.drawn + 1 } : World) = y0 at *
          refine segI 4 [0, 1, 2, 3, 4, 5, 6, 7, 8, 9, 10, 11, 13, 14] rfl (by kernel_rfl) C0.out (by kernel_rfl) ?_
          change wpQuiet _ _ _ _ (_ :: _ :: _ :: _ :: _ :: _ :: _ :: _ :: _ :: _ :: _ :: _ :: _ :: _ :: []) _
          repeat (first
            | go_big_quiet_skip
            | (go_big_quiet_want
               first
               | (refine q_cell 9 (.inr (.inl rfl)) (.tmp 45) rfl g 0 rfl _ F1.out ?_
                  simp only [Act.put, List.setIfInBounds_toArray, List.set_cons_zero, List.set_cons_succ]
                  go_big_quiet_on)
               | (refine q_cell 9 (.inr (.inl rfl)) (.tmp 52) rfl g 0 rfl _ F1.out ?_
                  simp only [Act.put, List.setIfInBounds_toArray, List.set_cons_zero, List.set_cons_succ]
                  go_big_quiet_on)
               | (refine q_cell 3 (.inl rfl) (.tmp 55) rfl g 1 rfl _ F2.out ?_
                  simp only [Act.put, List.setIfInBounds_toArray, List.set_cons_zero, List.set_cons_succ]
                  go_big_quiet_on)
               | (go_big_quiet_op
                  go_big_quiet_on)))
          refine wpQuiet_nil ?_
          refine loneI (i := 12) 3 rfl (by kernel_rfl) rfl (by rfl) ?_
          intro K hK
          refine callI 28 _ _ rfl #[.string x.1] (by rw [List.map_toArray]; rfl) (enters Try.func28 (by kernel_rfl) rfl) (fun v w' => v = .string x.1 ∧ Hid (Below y0.heap.size y0 w')) ((sclone_any x.1 hxz y0).mono (by rintro e w' ⟨rfl, h⟩; exact ⟨_, rfl, rfl, h⟩)) ?_
          rintro v y1 ⟨rfl, H1⟩
          have C1 : Hid (C y1) := CM.out _ ((CO.out _ C0.out).trans (H1.out.mono (CO.out _ C0.out).size))
          refine hK _ _ (.inr C1.out) ?_
          clear hK K
          simp only [Act.put, List.setIfInBounds_toArray, List.set_cons_zero, List.set_cons_succ]
          refine loneI (i := 15) 2 rfl (by kernel_rfl) rfl (by rfl) ?_
          intro K hK
          refine yieldI (.tmp 51) _ _ rfl lp rfl #[.string x.1, .int .i64 x.2] (by rw [List.map_toArray]; rfl) _ (HRD.out _ y1 C1.out) ?_
          intro e y2 hor
          obtain ⟨c, rfl, HD⟩ : ∃ c : Bool, e = .returned (.bool c) ∧ Hid ((c = true → J (p2 ++ [x]) y2) ∧ (c = false → Jx (p2 ++ [x]) y2) ∧ Kp N w y2) := by
            have hb1 : Kp N w y1 := HI5.out.bl.trans (Kp.of_below (CO.out _ C1.out))
            rcases hor with ⟨rfl, hj, hb⟩ | ⟨rfl, hj, hb⟩
            · exact ⟨true, rfl, fun _ => hj, (fun h => by cases h), hb1.trans hb⟩
            · exact ⟨false, rfl, (fun h => by cases h), fun _ => hj, hb1.trans hb⟩
          refine ⟨_, rfl, ?_⟩
          refine hK _ _ (.inl (by kernel_rfl)) ?_
          clear hK K hor hCp
          simp only [Act.put, List.setIfInBounds_toArray, List.set_cons_zero, List.set_cons_succ]
          have hCp : ∀ p : Prop, (∀ W, W = y2 → p) ↔ p := fun p => ⟨fun h => h _ rfl, fun h _ _ => h⟩
          cases c
          all_goals
            refine calmI (i := 16) 1 rfl (by kernel_rfl) rfl rfl (.inl (by kernel_rfl)) ?_
            repeat (first | go_big_quiet_skip | (go_big_quiet_want; go_big_quiet_op; go_big_quiet_on))
            refine wpQuiet_nil ?_
            refine calmI (i := 17) 0 rfl (by kernel_rfl) rfl rfl (.inl (by kernel_rfl)) ?_
            repeat (first | go_big_quiet_skip | (go_big_quiet_want; go_big_quiet_op; go_big_quiet_on))
            refine wpQuiet_nil ?_
            refine doneI (by kernel_rfl) ?_
          · have HE : Hid (Kp N w y2 ∧ Jx (p2 ++ [x]) y2) := ⟨HD.out.2.2, HD.out.2.1 rfl⟩
            clear C0 C1 H1 HD hCp CO CM F1 F2 HRD HGB
            go_wp2
            exact bodyPost_ret (results_none rfl _ _ _) rfl ⟨rfl, HE.out.1, .inr ⟨p2, x, _, HXS.out, HE.out.2⟩⟩
          · have HE : Hid (II w y2 N to J xs xe q (j + (d + 1)) (p2 ++ [x])) := ⟨by rw [List.append_assoc]; exact HXS.out, HD.out.1 rfl, HD.out.2.2⟩
            have HG1 : Hid (gk - 1 < gk ∧ d + 1 + (gk - 1) = n + 1) := by have := Hd.out; exact ⟨by omega, by omega⟩
            have hw1 : d + 1 ≤ n := hd
            clear C0 C1 H1 HD hCp CO CM F1 F2 HRD HGB Hd hdn
            go_wp2
            go_roundg (gk - 1)
            case measure => exact HG1.out.1
            case rel => exact ⟨d + 1, p2 ++ [x], HG1.out.2, hw1, by go_num, HE.out⟩
#print axioms rise_any
end Go.Proofs.Yteokjfpppmnebaa
