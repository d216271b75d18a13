/-
  value.compareStructs; slices.CompareFunc at values.
-/
import Derived.Test.YtiddlpjnfophhaaOrr
namespace Go.Proofs.Ytiddlpjnfophhaa
open Go.RowKit
set_option linter.unusedVariables false
set_option maxRecDepth 8000 in
set_option maxHeartbeats 4000000 in
theorem vstructs (p q : Vt) (ih : OIh 30 p) (gp : Good p) (gq : Good q) (hwf : WfV p) (hwq : WfV q) (na : Option Addr) (nc : Nat) (ka : Option Addr) (kc : Nat) (na2 : Option Addr) (nc2 : Nat) (ka2 : Option Addr) (kc2 : Nat) (w : World) (hv : Vl w p na nc ka kc) (hv2 : Vl w q na2 nc2 ka2 kc2) (nsx msx : List ByteArray) (R : Int) (h9 : p.1.k = 9 ∧ q.1.k = 9) (hns : nsx = p.1.ns ∧ msx = q.1.ns) (hR : R = cmpF (p.2.drop 0) true (nsx.drop 0) (q.2.drop 0) (msx.drop 0)) :
    Calls Try.prog 45 #[.agg #[.int .i64 p.1.k, .int .i64 p.1.n, .int .i64 p.1.s, .string p.1.t, .slice na p.1.ns.length nc, .slice ka p.2.list.length kc], .agg #[.int .i64 q.1.k, .int .i64 q.1.n, .int .i64 q.1.s, .string q.1.t, .slice na2 q.1.ns.length nc2, .slice ka2 q.2.list.length kc2]] w fun e w' => e = .returned (.int .i64 R) ∧ Below w.heap.size w w' := by
  obtain ⟨w1, HW1⟩ : ∃ w1, Hid (((w.alloc (.cells #[.int .i64 p.1.k, .int .i64 p.1.n, .int .i64 p.1.s, .string p.1.t, .slice na p.1.ns.length nc, .slice ka p.2.list.length kc] 25)).alloc (.cells #[.int .i64 q.1.k, .int .i64 q.1.n, .int .i64 q.1.s, .string q.1.t, .slice na2 q.1.ns.length nc2, .slice ka2 q.2.list.length kc2] 25)) = w1) := ⟨_, rfl⟩
  have b0 : Below w.heap.size w w1 := by rw [← HW1.out]; exact ((Below.refl _ _).alloc (Nat.le_refl _) _).alloc (by simp) _
  have HC : Hid (∀ W, Below w1.heap.size w1 W → Nd W w.heap.size 0 p.1 na nc ka p.2.list.length kc ∧ Nd W (w.heap.size + 1) 0 q.1 na2 nc2 ka2 q.2.list.length kc2) := fun W hb => by
    rw [← HW1.out] at hb
    have e1 : Below (w.alloc (.cells #[.int .i64 p.1.k, .int .i64 p.1.n, .int .i64 p.1.s, .string p.1.t, .slice na p.1.ns.length nc, .slice ka p.2.list.length kc] 25)).heap.size (w.alloc (.cells #[.int .i64 p.1.k, .int .i64 p.1.n, .int .i64 p.1.s, .string p.1.t, .slice na p.1.ns.length nc, .slice ka p.2.list.length kc] 25)) W := ((Below.refl _ _).alloc (Nat.le_refl _) _).trans (hb.mono (by simp))
    have g2 := box_nd hb
    have e2 : (w.alloc (.cells #[.int .i64 p.1.k, .int .i64 p.1.n, .int .i64 p.1.s, .string p.1.t, .slice na p.1.ns.length nc, .slice ka p.2.list.length kc] 25)).heap.size = w.heap.size + 1 := by simp
    rw [e2] at g2
    exact ⟨box_nd e1, g2⟩
  have v1 := hv.below b0
  have v2 := hv2.below b0
  obtain ⟨C, hC⟩ : ∃ C : World → Prop, C = fun W => Below w1.heap.size w1 W := ⟨_, rfl⟩
  have CD : Hid (∀ W, C W → C { W with drawn := W.drawn + 1 }) := fun W h => by rw [hC] at h ⊢; exact h.drew
  have CA : Hid (∀ W o, C W → C (W.alloc o)) := fun W o h => by rw [hC] at h ⊢; exact h.alloc h.size _
  have CB : Hid (∀ W W', C W → Below W.heap.size W W' → C W') := fun W W' h hb => by rw [hC] at h ⊢; exact h.trans (hb.mono h.size)
  have CE : Hid (∀ W, C W → Below w.heap.size w W) := fun W h => by rw [hC] at h; exact b0.trans (h.mono b0.size)
  have HCw : Hid (C w1) := by rw [hC]; exact Below.refl _ _
  have N1 : Hid (∀ W, C W → Nd W w.heap.size 0 p.1 na nc ka p.2.list.length kc) := fun W h => by rw [hC] at h; exact (HC.out W h).1
  have N2 : Hid (∀ W, C W → Nd W (w.heap.size + 1) 0 q.1 na2 nc2 ka2 q.2.list.length kc2) := fun W h => by rw [hC] at h; exact (HC.out W h).2
  have V1 : Hid (∀ W, C W → Vl W p na nc ka kc) := fun W h => by rw [hC] at h; exact v1.below h
  have V2 : Hid (∀ W, C W → Vl W q na2 nc2 ka2 kc2) := fun W h => by rw [hC] at h; exact v2.below h
  have hCp : ∀ p : Prop, (∀ W, C W → p) ↔ p := fun p => ⟨fun h => h _ HCw.out, fun h _ _ => h⟩
  have hkl := hwf.2.1
  have hkl2 := hwq.2.1
  have HI : Hid (OIh 30 p) := ih
  have GP : Hid (Good p) := gp
  have GQ : Hid (Good q) := gq
  have HW : Hid (WfV p) := hwf
  have HWq : Hid (WfV q) := hwq
  have KP : Hid (∀ k p', p.2.list[k]? = some p' → ∃ b o, ka = some ⟨b, o, none⟩ ∧ ∃ na' nc' ka' kc', (∀ W, C W → Nd W b (o + k * 6) p'.1 na' nc' ka' p'.2.list.length kc') ∧ ∀ W, C W → Vl W p' na' nc' ka' kc') := fun k p' hp' => by
    obtain ⟨b, o, e, na', nc', ka', kc', hnd, hvl⟩ := v1.slc.get hp'
    exact ⟨b, o, e, na', nc', ka', kc', fun W h => by rw [hC] at h; exact hnd.below h, fun W h => by rw [hC] at h; exact hvl.below h⟩
  have KQ : Hid (∀ k p', q.2.list[k]? = some p' → ∃ b o, ka2 = some ⟨b, o, none⟩ ∧ ∃ na' nc' ka' kc', (∀ W, C W → Nd W b (o + k * 6) p'.1 na' nc' ka' p'.2.list.length kc') ∧ ∀ W, C W → Vl W p' na' nc' ka' kc') := fun k p' hp' => by
    obtain ⟨b, o, e, na', nc', ka', kc', hnd, hvl⟩ := v2.slc.get hp'
    exact ⟨b, o, e, na', nc', ka', kc', fun W h => by rw [hC] at h; exact hnd.below h, fun W h => by rw [hC] at h; exact hvl.below h⟩
  have HR : Hid (R = cmpF (p.2.drop 0) true (nsx.drop 0) (q.2.drop 0) (msx.drop 0)) := hR
  have HK9 : Hid (p.1.k = 9 ∧ q.1.k = 9) := h9
  have HNS : Hid (nsx = p.1.ns ∧ msx = q.1.ns) := hns
  clear hR h9 hns
  clear hC HC b0 v1 v2 ih gp gq hwf hwq hv hv2
  by_cases hqp : q.2.list.length < p.2.list.length
  case pos =>
    go_enter Try.func45, Try.ntmps45
    go_wp2
    generalize hWW : World.alloc (World.alloc w _) _ = W9
    obtain rfl : w1 = W9 := by rw [← hWW, ← HW1.out]
    clear hWW HW1
    go_loopw [5, 6, 7, 15] (fun _ _ _ i wr => ∃ k : Nat, k ≤ q.2.list.length ∧ i = .int .i64 (k : Int) ∧ Hid (C wr) ∧ Hid (R = cmpF (p.2.drop k) true (nsx.drop k) (q.2.drop k) (msx.drop k))) (fun _ _ _ i _ => q.2.list.length - (intOf i).toNat)
    case atStart => exact ⟨0, by omega, rfl, HCw.out, HR.out⟩
    case round =>
      clear HCw
      obtain ⟨k, hk0, rfl, HCw, HRk⟩ := hrel
      by_cases hlt : k < q.2.list.length
      case neg =>
        have HF : Hid (R = sg (p.2.list.length : Int) (q.2.list.length : Int)) := HRk.out.trans (cmpF_end (by omega) (by omega) (by omega))
        have c5 := (N1.out wr HCw.out).c5
        have e5 := (N2.out wr HCw.out).c5
        simp only [Nat.zero_add] at c5 e5
        go_wp2_with (go_at_call 41; refine (cmp41 _ _ _).mono ?_; rintro e w' ⟨rfl, rfl⟩)
        go_ret
        exact ⟨ret_num HF.out.symm, CE.out _ HCw.out⟩
      have h1 : k < p.2.list.length := by omega
      have h2 : k < q.2.list.length := by omega
      obtain ⟨p', hp'⟩ : ∃ p', p.2.list[k]? = some p' := ⟨_, List.getElem?_eq_getElem h1⟩
      obtain ⟨q', hq'⟩ : ∃ q', q.2.list[k]? = some q' := ⟨_, List.getElem?_eq_getElem h2⟩
      obtain ⟨d1, hd1⟩ := GP.out.kids p' (List.mem_of_getElem? hp')
      obtain ⟨d2, hd2⟩ := GQ.out.kids q' (List.mem_of_getElem? hq')
      obtain ⟨b, o, rfl, na', nc', ka', kc', hnd, hvl⟩ := KP.out k p' hp'
      obtain ⟨b2, o2, rfl, na3, nc3, ka3, kc3, hnd2, hvl2⟩ := KQ.out k q' hq'
      have k1 : Hid (∀ W, C W → Calls Try.prog 30 #[.agg #[.int .i64 p'.1.k, .int .i64 p'.1.n, .int .i64 p'.1.s, .string p'.1.t, .slice na' p'.1.ns.length nc', .slice ka' p'.2.list.length kc'], .agg #[.int .i64 q'.1.k, .int .i64 q'.1.n, .int .i64 q'.1.s, .string q'.1.t, .slice na3 q'.1.ns.length nc3, .slice ka3 q'.2.list.length kc3]] W fun e w' => e = .returned (.int .i64 (ordV p' q')) ∧ C w') := fun W hW => by
        refine (HI.out p' (wt_kid (List.mem_of_getElem? hp')) (good_of hd1) (HW.out.kid (List.mem_of_getElem? hp')) q' (good_of hd2) (HWq.out.kid (List.mem_of_getElem? hq')) na' nc' ka' kc' na3 nc3 ka3 kc3 W (hvl W hW) (hvl2 W hW)).mono ?_
        rintro e w' ⟨rfl, hb⟩
        exact ⟨rfl, CB.out _ _ hW hb⟩
      have n1 : Hid (∀ W, C W → Nd W b (o + k * 6) p'.1 na' nc' ka' p'.2.list.length kc') := hnd
      have n2 : Hid (∀ W, C W → Nd W b2 (o2 + k * 6) q'.1 na3 nc3 ka3 q'.2.list.length kc3) := hnd2
      have s1 : Hid (∀ W, C W → W.cell? ⟨w.heap.size, 5, none⟩ = some (.slice (some ⟨b, o, none⟩) p.2.list.length kc)) := fun W h => (N1.out W h).c5
      have s2 : Hid (∀ W, C W → W.cell? ⟨w.heap.size + 1, 5, none⟩ = some (.slice (some ⟨b2, o2, none⟩) q.2.list.length kc2)) := fun W h => (N2.out W h).c5
      have HP : Hid (p.1.ns.length = p.2.list.length) := GP.out.ns HK9.out.1
      have HQ : Hid (q.1.ns.length = q.2.list.length) := GQ.out.ns HK9.out.2
      obtain ⟨x, hx⟩ : ∃ x, p.1.ns[k]? = some x := ⟨_, List.getElem?_eq_getElem (by rw [HP.out]; exact h1)⟩
      obtain ⟨y, hy⟩ : ∃ y, q.1.ns[k]? = some y := ⟨_, List.getElem?_eq_getElem (by rw [HQ.out]; exact h2)⟩
      obtain ⟨bn, on, rfl, hcx⟩ : ∃ b o, na = some ⟨b, o, none⟩ ∧ ∀ W, C W → W.cell? ⟨b, o + k, none⟩ = some (.string x) := by
        rcases (V1.out wr HCw.out).nms with e | ⟨b, o, e, _⟩
        · rw [e] at hx; simp at hx
        · refine ⟨b, o, e, fun W hW => ?_⟩
          rcases (V1.out W hW).nms with e2 | ⟨b', o', e2, hc⟩
          · rw [e2] at hx; simp at hx
          · rw [e] at e2
            injection e2 with e2
            injection e2 with e3 e4
            subst e3 e4
            exact hc k x hx
      obtain ⟨bm, om, rfl, hcy⟩ : ∃ b o, na2 = some ⟨b, o, none⟩ ∧ ∀ W, C W → W.cell? ⟨b, o + k, none⟩ = some (.string y) := by
        rcases (V2.out wr HCw.out).nms with e | ⟨b, o, e, _⟩
        · rw [e] at hy; simp at hy
        · refine ⟨b, o, e, fun W hW => ?_⟩
          rcases (V2.out W hW).nms with e2 | ⟨b', o', e2, hc⟩
          · rw [e2] at hy; simp at hy
          · rw [e] at e2
            injection e2 with e2
            injection e2 with e3 e4
            subst e3 e4
            exact hc k y hy
      have HX : Hid (∀ W, C W → W.cell? ⟨bn, on + k, none⟩ = some (.string x)) := hcx
      have HY : Hid (∀ W, C W → W.cell? ⟨bm, om + k, none⟩ = some (.string y)) := hcy
      have r1 : Hid (∀ W, C W → W.cell? ⟨w.heap.size, 4, none⟩ = some (.slice (some ⟨bn, on, none⟩) p.2.list.length nc)) := fun W h => by rw [← HP.out]; exact (N1.out W h).c4
      have r2 : Hid (∀ W, C W → W.cell? ⟨w.heap.size + 1, 4, none⟩ = some (.slice (some ⟨bm, om, none⟩) q.2.list.length nc2)) := fun W h => by rw [← HQ.out]; exact (N2.out W h).c4
      have HNx : Hid (nameAt (nsx.drop k) = x ∧ nameAt (msx.drop k) = y) := by
        obtain ⟨e1, e2⟩ := HNS.out
        rw [e1, e2]
        have g1 : (p.1.ns.drop k).head? = some x := by rw [List.head?_drop, hx]
        have g2 : (q.1.ns.drop k).head? = some y := by rw [List.head?_drop, hy]
        exact ⟨by simp [nameAt, List.headD_eq_head?_getD, g1], by simp [nameAt, List.headD_eq_head?_getD, g2]⟩
      have kt : Hid (∀ W, C W → Calls Try.prog 43 #[.string x, .string y] W fun e w' => e = .returned (.int .i64 (tx x y)) ∧ C w') := keep fun W => cmp43 _ _ W
      have HSx : Hid (R = if tx x y ≠ 0 then tx x y else if ordV p' q' ≠ 0 then ordV p' q' else cmpF (p.2.drop (k + 1)) true (nsx.drop (k + 1)) (q.2.drop (k + 1)) (msx.drop (k + 1))) := by
        show _ = _
        rw [HRk.out, cmpF_step hp' hq', HNx.out.1, HNx.out.2]
        simp
      clear hx hy hcx hcy HNx
      clear hnd hnd2 hvl hvl2 hd1 hd2 HRk hp' hq'
      generalize ordV p' q' = E at *
      generalize tx x y = Tx at *
      go_wp2
      refine q_region (C := C) (by kernel_rfl) (by kernel_rfl) (CD.out _ HCw.out) ?_
      repeat (first
        | go_big_quiet_skip
        | (go_big_quiet_want
           first
           | (refine q_slice 22 (.tmp 18) rfl w.heap.size 4 rfl _ _ _ (by simp) r1.out ?_
              simp only [Act.put, List.setIfInBounds_toArray, List.set_cons_zero, List.set_cons_succ]
              go_big_quiet_on)
           | (refine q_slice 22 (.tmp 23) rfl (w.heap.size + 1) 4 rfl _ _ _ (by simp) r2.out ?_
              simp only [Act.put, List.setIfInBounds_toArray, List.set_cons_zero, List.set_cons_succ]
              go_big_quiet_on)
           | (refine q_str (.tmp 21) rfl bn (on + k) rfl _ HX.out ?_
              simp only [Act.put, List.setIfInBounds_toArray, List.set_cons_zero, List.set_cons_succ]
              go_big_quiet_on)
           | (refine q_str (.tmp 26) rfl bm (om + k) rfl _ HY.out ?_
              simp only [Act.put, List.setIfInBounds_toArray, List.set_cons_zero, List.set_cons_succ]
              go_big_quiet_on)
           | (go_big_quiet_op
              first
              | go_big_quiet_on
              | (apply Exists.intro
                 refine ⟨?_, ?_⟩
                 · first
                   | exact kt.out
                 go_big_quiet_on))))
      refine wpQuiet_nil ?_
      clear HCw
      intro W hW
      have HCw : Hid (C W) := hW
      clear hW
      by_cases hTx : Tx = 0
      case neg =>
        go_wp2
        go_ret
        exact ⟨ret_num (by rw [HSx.out, if_pos hTx]), CE.out _ HCw.out⟩
      have HS : Hid (R = if E ≠ 0 then E else cmpF (p.2.drop (k + 1)) true (nsx.drop (k + 1)) (q.2.drop (k + 1)) (msx.drop (k + 1))) := by
        show _ = _
        rw [HSx.out, if_neg (by simp [hTx])]
      clear HSx kt HX HY r1 r2
      go_wp2
      refine q_region (C := C) (by kernel_rfl) (by kernel_rfl) (CD.out _ HCw.out) ?_
      repeat (first
        | go_big_quiet_skip
        | (go_big_quiet_want
           first
           | (refine q_slice 23 (.tmp 32) rfl w.heap.size 5 rfl _ _ _ (by simp) s1.out ?_
              simp only [Act.put, List.setIfInBounds_toArray, List.set_cons_zero, List.set_cons_succ]
              go_big_quiet_on)
           | (refine q_slice 23 (.tmp 37) rfl (w.heap.size + 1) 5 rfl _ _ _ (by simp) s2.out ?_
              simp only [Act.put, List.setIfInBounds_toArray, List.set_cons_zero, List.set_cons_succ]
              go_big_quiet_on)
           | (refine q_val (.tmp 35) rfl b (o + k * 6) rfl _ _ _ _ _ _ n1.out ?_
              simp only [Act.put, List.setIfInBounds_toArray, List.set_cons_zero, List.set_cons_succ]
              go_big_quiet_on)
           | (refine q_val (.tmp 40) rfl b2 (o2 + k * 6) rfl _ _ _ _ _ _ n2.out ?_
              simp only [Act.put, List.setIfInBounds_toArray, List.set_cons_zero, List.set_cons_succ]
              go_big_quiet_on)
           | (go_big_quiet_op
              first
              | go_big_quiet_on
              | (apply Exists.intro
                 refine ⟨?_, ?_⟩
                 · first
                   | exact k1.out
                 go_big_quiet_on))))
      refine wpQuiet_nil ?_
      clear HCw
      intro W hW
      have HCw : Hid (C W) := hW
      clear hW
      by_cases hE : E = 0
      · subst hE
        go_wp2
        go_roundw
        case rel => exact ⟨k + 1, by omega, by go_num, HCw.out, show R = _ by simpa using HS.out⟩
        case measure => simp [intOf]; omega
      · go_wp2
        go_ret
        exact ⟨ret_num (by rw [HS.out, if_pos hE]), CE.out _ HCw.out⟩
  case neg =>
    go_enter Try.func45, Try.ntmps45
    go_wp2
    generalize hWW : World.alloc (World.alloc w _) _ = W9
    obtain rfl : w1 = W9 := by rw [← hWW, ← HW1.out]
    clear hWW HW1
    go_loopw [5, 6, 7, 15] (fun _ _ _ i wr => ∃ k : Nat, k ≤ p.2.list.length ∧ i = .int .i64 (k : Int) ∧ Hid (C wr) ∧ Hid (R = cmpF (p.2.drop k) true (nsx.drop k) (q.2.drop k) (msx.drop k))) (fun _ _ _ i _ => p.2.list.length - (intOf i).toNat)
    case atStart => exact ⟨0, by omega, rfl, HCw.out, HR.out⟩
    case round =>
      clear HCw
      obtain ⟨k, hk0, rfl, HCw, HRk⟩ := hrel
      by_cases hlt : k < p.2.list.length
      case neg =>
        have HF : Hid (R = sg (p.2.list.length : Int) (q.2.list.length : Int)) := HRk.out.trans (cmpF_end (by omega) (by omega) (by omega))
        have c5 := (N1.out wr HCw.out).c5
        have e5 := (N2.out wr HCw.out).c5
        simp only [Nat.zero_add] at c5 e5
        go_wp2_with (go_at_call 41; refine (cmp41 _ _ _).mono ?_; rintro e w' ⟨rfl, rfl⟩)
        go_ret
        exact ⟨ret_num HF.out.symm, CE.out _ HCw.out⟩
      have h1 : k < p.2.list.length := by omega
      have h2 : k < q.2.list.length := by omega
      obtain ⟨p', hp'⟩ : ∃ p', p.2.list[k]? = some p' := ⟨_, List.getElem?_eq_getElem h1⟩
      obtain ⟨q', hq'⟩ : ∃ q', q.2.list[k]? = some q' := ⟨_, List.getElem?_eq_getElem h2⟩
      obtain ⟨d1, hd1⟩ := GP.out.kids p' (List.mem_of_getElem? hp')
      obtain ⟨d2, hd2⟩ := GQ.out.kids q' (List.mem_of_getElem? hq')
      obtain ⟨b, o, rfl, na', nc', ka', kc', hnd, hvl⟩ := KP.out k p' hp'
      obtain ⟨b2, o2, rfl, na3, nc3, ka3, kc3, hnd2, hvl2⟩ := KQ.out k q' hq'
      have k1 : Hid (∀ W, C W → Calls Try.prog 30 #[.agg #[.int .i64 p'.1.k, .int .i64 p'.1.n, .int .i64 p'.1.s, .string p'.1.t, .slice na' p'.1.ns.length nc', .slice ka' p'.2.list.length kc'], .agg #[.int .i64 q'.1.k, .int .i64 q'.1.n, .int .i64 q'.1.s, .string q'.1.t, .slice na3 q'.1.ns.length nc3, .slice ka3 q'.2.list.length kc3]] W fun e w' => e = .returned (.int .i64 (ordV p' q')) ∧ C w') := fun W hW => by
        refine (HI.out p' (wt_kid (List.mem_of_getElem? hp')) (good_of hd1) (HW.out.kid (List.mem_of_getElem? hp')) q' (good_of hd2) (HWq.out.kid (List.mem_of_getElem? hq')) na' nc' ka' kc' na3 nc3 ka3 kc3 W (hvl W hW) (hvl2 W hW)).mono ?_
        rintro e w' ⟨rfl, hb⟩
        exact ⟨rfl, CB.out _ _ hW hb⟩
      have n1 : Hid (∀ W, C W → Nd W b (o + k * 6) p'.1 na' nc' ka' p'.2.list.length kc') := hnd
      have n2 : Hid (∀ W, C W → Nd W b2 (o2 + k * 6) q'.1 na3 nc3 ka3 q'.2.list.length kc3) := hnd2
      have s1 : Hid (∀ W, C W → W.cell? ⟨w.heap.size, 5, none⟩ = some (.slice (some ⟨b, o, none⟩) p.2.list.length kc)) := fun W h => (N1.out W h).c5
      have s2 : Hid (∀ W, C W → W.cell? ⟨w.heap.size + 1, 5, none⟩ = some (.slice (some ⟨b2, o2, none⟩) q.2.list.length kc2)) := fun W h => (N2.out W h).c5
      have HP : Hid (p.1.ns.length = p.2.list.length) := GP.out.ns HK9.out.1
      have HQ : Hid (q.1.ns.length = q.2.list.length) := GQ.out.ns HK9.out.2
      obtain ⟨x, hx⟩ : ∃ x, p.1.ns[k]? = some x := ⟨_, List.getElem?_eq_getElem (by rw [HP.out]; exact h1)⟩
      obtain ⟨y, hy⟩ : ∃ y, q.1.ns[k]? = some y := ⟨_, List.getElem?_eq_getElem (by rw [HQ.out]; exact h2)⟩
      obtain ⟨bn, on, rfl, hcx⟩ : ∃ b o, na = some ⟨b, o, none⟩ ∧ ∀ W, C W → W.cell? ⟨b, o + k, none⟩ = some (.string x) := by
        rcases (V1.out wr HCw.out).nms with e | ⟨b, o, e, _⟩
        · rw [e] at hx; simp at hx
        · refine ⟨b, o, e, fun W hW => ?_⟩
          rcases (V1.out W hW).nms with e2 | ⟨b', o', e2, hc⟩
          · rw [e2] at hx; simp at hx
          · rw [e] at e2
            injection e2 with e2
            injection e2 with e3 e4
            subst e3 e4
            exact hc k x hx
      obtain ⟨bm, om, rfl, hcy⟩ : ∃ b o, na2 = some ⟨b, o, none⟩ ∧ ∀ W, C W → W.cell? ⟨b, o + k, none⟩ = some (.string y) := by
        rcases (V2.out wr HCw.out).nms with e | ⟨b, o, e, _⟩
        · rw [e] at hy; simp at hy
        · refine ⟨b, o, e, fun W hW => ?_⟩
          rcases (V2.out W hW).nms with e2 | ⟨b', o', e2, hc⟩
          · rw [e2] at hy; simp at hy
          · rw [e] at e2
            injection e2 with e2
            injection e2 with e3 e4
            subst e3 e4
            exact hc k y hy
      have HX : Hid (∀ W, C W → W.cell? ⟨bn, on + k, none⟩ = some (.string x)) := hcx
      have HY : Hid (∀ W, C W → W.cell? ⟨bm, om + k, none⟩ = some (.string y)) := hcy
      have r1 : Hid (∀ W, C W → W.cell? ⟨w.heap.size, 4, none⟩ = some (.slice (some ⟨bn, on, none⟩) p.2.list.length nc)) := fun W h => by rw [← HP.out]; exact (N1.out W h).c4
      have r2 : Hid (∀ W, C W → W.cell? ⟨w.heap.size + 1, 4, none⟩ = some (.slice (some ⟨bm, om, none⟩) q.2.list.length nc2)) := fun W h => by rw [← HQ.out]; exact (N2.out W h).c4
      have HNx : Hid (nameAt (nsx.drop k) = x ∧ nameAt (msx.drop k) = y) := by
        obtain ⟨e1, e2⟩ := HNS.out
        rw [e1, e2]
        have g1 : (p.1.ns.drop k).head? = some x := by rw [List.head?_drop, hx]
        have g2 : (q.1.ns.drop k).head? = some y := by rw [List.head?_drop, hy]
        exact ⟨by simp [nameAt, List.headD_eq_head?_getD, g1], by simp [nameAt, List.headD_eq_head?_getD, g2]⟩
      have kt : Hid (∀ W, C W → Calls Try.prog 43 #[.string x, .string y] W fun e w' => e = .returned (.int .i64 (tx x y)) ∧ C w') := keep fun W => cmp43 _ _ W
      have HSx : Hid (R = if tx x y ≠ 0 then tx x y else if ordV p' q' ≠ 0 then ordV p' q' else cmpF (p.2.drop (k + 1)) true (nsx.drop (k + 1)) (q.2.drop (k + 1)) (msx.drop (k + 1))) := by
        show _ = _
        rw [HRk.out, cmpF_step hp' hq', HNx.out.1, HNx.out.2]
        simp
      clear hx hy hcx hcy HNx
      clear hnd hnd2 hvl hvl2 hd1 hd2 HRk hp' hq'
      generalize ordV p' q' = E at *
      generalize tx x y = Tx at *
      go_wp2
      refine q_region (C := C) (by kernel_rfl) (by kernel_rfl) (CD.out _ HCw.out) ?_
      repeat (first
        | go_big_quiet_skip
        | (go_big_quiet_want
           first
           | (refine q_slice 22 (.tmp 18) rfl w.heap.size 4 rfl _ _ _ (by simp) r1.out ?_
              simp only [Act.put, List.setIfInBounds_toArray, List.set_cons_zero, List.set_cons_succ]
              go_big_quiet_on)
           | (refine q_slice 22 (.tmp 23) rfl (w.heap.size + 1) 4 rfl _ _ _ (by simp) r2.out ?_
              simp only [Act.put, List.setIfInBounds_toArray, List.set_cons_zero, List.set_cons_succ]
              go_big_quiet_on)
           | (refine q_str (.tmp 21) rfl bn (on + k) rfl _ HX.out ?_
              simp only [Act.put, List.setIfInBounds_toArray, List.set_cons_zero, List.set_cons_succ]
              go_big_quiet_on)
           | (refine q_str (.tmp 26) rfl bm (om + k) rfl _ HY.out ?_
              simp only [Act.put, List.setIfInBounds_toArray, List.set_cons_zero, List.set_cons_succ]
              go_big_quiet_on)
           | (go_big_quiet_op
              first
              | go_big_quiet_on
              | (apply Exists.intro
                 refine ⟨?_, ?_⟩
                 · first
                   | exact kt.out
                 go_big_quiet_on))))
      refine wpQuiet_nil ?_
      clear HCw
      intro W hW
      have HCw : Hid (C W) := hW
      clear hW
      by_cases hTx : Tx = 0
      case neg =>
        go_wp2
        go_ret
        exact ⟨ret_num (by rw [HSx.out, if_pos hTx]), CE.out _ HCw.out⟩
      have HS : Hid (R = if E ≠ 0 then E else cmpF (p.2.drop (k + 1)) true (nsx.drop (k + 1)) (q.2.drop (k + 1)) (msx.drop (k + 1))) := by
        show _ = _
        rw [HSx.out, if_neg (by simp [hTx])]
      clear HSx kt HX HY r1 r2
      go_wp2
      refine q_region (C := C) (by kernel_rfl) (by kernel_rfl) (CD.out _ HCw.out) ?_
      repeat (first
        | go_big_quiet_skip
        | (go_big_quiet_want
           first
           | (refine q_slice 23 (.tmp 32) rfl w.heap.size 5 rfl _ _ _ (by simp) s1.out ?_
              simp only [Act.put, List.setIfInBounds_toArray, List.set_cons_zero, List.set_cons_succ]
              go_big_quiet_on)
           | (refine q_slice 23 (.tmp 37) rfl (w.heap.size + 1) 5 rfl _ _ _ (by simp) s2.out ?_
              simp only [Act.put, List.setIfInBounds_toArray, List.set_cons_zero, List.set_cons_succ]
              go_big_quiet_on)
           | (refine q_val (.tmp 35) rfl b (o + k * 6) rfl _ _ _ _ _ _ n1.out ?_
              simp only [Act.put, List.setIfInBounds_toArray, List.set_cons_zero, List.set_cons_succ]
              go_big_quiet_on)
           | (refine q_val (.tmp 40) rfl b2 (o2 + k * 6) rfl _ _ _ _ _ _ n2.out ?_
              simp only [Act.put, List.setIfInBounds_toArray, List.set_cons_zero, List.set_cons_succ]
              go_big_quiet_on)
           | (go_big_quiet_op
              first
              | go_big_quiet_on
              | (apply Exists.intro
                 refine ⟨?_, ?_⟩
                 · first
                   | exact k1.out
                 go_big_quiet_on))))
      refine wpQuiet_nil ?_
      clear HCw
      intro W hW
      have HCw : Hid (C W) := hW
      clear hW
      by_cases hE : E = 0
      · subst hE
        go_wp2
        go_roundw
        case rel => exact ⟨k + 1, by omega, by go_num, HCw.out, show R = _ by simpa using HS.out⟩
        case measure => simp [intOf]; omega
      · go_wp2
        go_ret
        exact ⟨ret_num (by rw [HS.out, if_pos hE]), CE.out _ HCw.out⟩
end Go.Proofs.Ytiddlpjnfophhaa
