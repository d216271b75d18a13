/-
  slices.CompareFunc at values, with value.compare.
-/
import Derived.Test.YtiddlpjnfophhaaCst
namespace Go.Proofs.Ytiddlpjnfophhaa
open Go.RowKit
set_option linter.unusedVariables false
theorem cmpF_endn {f g : Fo} {k : Nat} (hk : k ≤ f.list.length) (hk2 : k ≤ g.list.length) (h : f.list.length = k ∨ g.list.length = k) : cmpF (f.drop k) false [] (g.drop k) [] = sg (f.list.length : Int) (g.list.length : Int) := by
  have := cmpF_end (st := false) (ns := []) (ms := []) hk hk2 h
  simpa using this
set_option maxRecDepth 8000 in
set_option maxHeartbeats 4000000 in
theorem vlists (p q : Vt) (ih : OIh 30 p) (gp : Good p) (gq : Good q) (hwf : WfV p) (hwq : WfV q) (na : Option Addr) (nc : Nat) (ka : Option Addr) (kc : Nat) (na2 : Option Addr) (nc2 : Nat) (ka2 : Option Addr) (kc2 : Nat) (w : World) (hv : Vl w p na nc ka kc) (hv2 : Vl w q na2 nc2 ka2 kc2) (R : Int) (hR : R = cmpF (p.2.drop 0) false [] (q.2.drop 0) []) :
    Calls Try.prog 44 #[.slice ka p.2.list.length kc, .slice ka2 q.2.list.length kc2, .func (.func 30) #[] #[]] w fun e w' => e = .returned (.int .i64 R) ∧ Below w.heap.size w w' := by
  have HR : Hid (R = cmpF (p.2.drop 0) false [] (q.2.drop 0) []) := hR
  have HI : Hid (OIh 30 p) := ih
  have GP : Hid (Good p) := gp
  have GQ : Hid (Good q) := gq
  have HW : Hid (WfV p) := hwf
  have HWq : Hid (WfV q) := hwq
  have hkl := hwf.2.1
  have hkl2 := hwq.2.1
  have HV : Hid (Vl w p na nc ka kc) := hv
  have HV2 : Hid (Vl w q na2 nc2 ka2 kc2) := hv2
  clear hR ih gp gq hwf hwq hv hv2
  go_enter Try.func44, Try.ntmps44
  go_wp2
  go_loopw [7, 8, 9, 10, 13] (fun _ _ _ _ i wr => ∃ k : Nat, k ≤ p.2.list.length ∧ k ≤ q.2.list.length ∧ i = .int .i64 (k : Int) ∧ Hid (Below w.heap.size w wr) ∧ Hid (R = cmpF (p.2.drop k) false [] (q.2.drop k) [])) (fun _ _ _ _ i _ => p.2.list.length - (intOf i).toNat)
  case atStart => exact ⟨0, by omega, by omega, rfl, Below.refl _ _, HR.out⟩
  case round =>
    obtain ⟨k, hk0, hk1, rfl, HB, HRk⟩ := hrel
    by_cases h1 : k < p.2.list.length
    case neg =>
      have HF : Hid (R = sg (p.2.list.length : Int) (q.2.list.length : Int)) := HRk.out.trans (cmpF_endn hk0 hk1 (by omega))
      by_cases h2 : p.2.list.length < q.2.list.length
      · go_wp2
        go_ret
        exact ⟨ret_num (by rw [HF.out, sg_lt (by omega)]), HB.out⟩
      · have hkk : p.2.list.length = q.2.list.length := by omega
        go_wp2
        go_ret
        exact ⟨ret_num (by rw [HF.out, hkk, sg_self]), HB.out⟩
    obtain ⟨p', b, o, na', nc', ka', kc', hp', rfl, hnd, hvl⟩ := HV.out.kid HB.out (k := k) h1
    obtain ⟨W1, HW1⟩ : ∃ W1, Hid (wr.alloc (.cells #[.int .i64 p'.1.k, .int .i64 p'.1.n, .int .i64 p'.1.s, .string p'.1.t, .slice na' p'.1.ns.length nc', .slice ka' p'.2.list.length kc'] 25) = W1) := ⟨_, rfl⟩
    have HB1 : Hid (Below w.heap.size w W1) := by show _; rw [← HW1.out]; exact HB.out.alloc HB.out.size _
    by_cases h2 : k < q.2.list.length
    case neg =>
      have HF : Hid (R = sg (p.2.list.length : Int) (q.2.list.length : Int)) := HRk.out.trans (cmpF_endn hk0 hk1 (by omega))
      obtain ⟨c0, c1, c2, c3, c4, c5⟩ := hnd
      clear hvl hp' HRk
      go_wp2
      generalize hWW : World.alloc wr _ = W9
      obtain rfl : W1 = W9 := by rw [← hWW, ← HW1.out]
      go_ret
      exact ⟨ret_num (by rw [HF.out, sg_gt (by omega)]), HB1.out⟩
    have b1 : Below wr.heap.size wr W1 := by rw [← HW1.out]; exact (Below.refl _ _).alloc (Nat.le_refl _) _
    obtain ⟨q', b2, o2, na3, nc3, ka3, kc3, hq', rfl, hnd2, hvl2⟩ := HV2.out.kid HB1.out (k := k) h2
    obtain ⟨W2, HW2⟩ : ∃ W2, Hid (W1.alloc (.cells #[.int .i64 q'.1.k, .int .i64 q'.1.n, .int .i64 q'.1.s, .string q'.1.t, .slice na3 q'.1.ns.length nc3, .slice ka3 q'.2.list.length kc3] 25) = W2) := ⟨_, rfl⟩
    have b2' : Below W1.heap.size W1 W2 := by rw [← HW2.out]; exact (Below.refl _ _).alloc (Nat.le_refl _) _
    have HB2 : Hid (Below w.heap.size w W2) := HB1.out.trans (b2'.mono HB1.out.size)
    have HN2 : Hid (Nd W2 wr.heap.size 0 p'.1 na' nc' ka' p'.2.list.length kc' ∧ Nd W2 W1.heap.size 0 q'.1 na3 nc3 ka3 q'.2.list.length kc3) := by
      have e1 : Below (wr.alloc (.cells #[.int .i64 p'.1.k, .int .i64 p'.1.n, .int .i64 p'.1.s, .string p'.1.t, .slice na' p'.1.ns.length nc', .slice ka' p'.2.list.length kc'] 25)).heap.size (wr.alloc (.cells #[.int .i64 p'.1.k, .int .i64 p'.1.n, .int .i64 p'.1.s, .string p'.1.t, .slice na' p'.1.ns.length nc', .slice ka' p'.2.list.length kc'] 25)) W2 := by rw [HW1.out]; exact b2'
      have e2 : Below (W1.alloc (.cells #[.int .i64 q'.1.k, .int .i64 q'.1.n, .int .i64 q'.1.s, .string q'.1.t, .slice na3 q'.1.ns.length nc3, .slice ka3 q'.2.list.length kc3] 25)).heap.size (W1.alloc (.cells #[.int .i64 q'.1.k, .int .i64 q'.1.n, .int .i64 q'.1.s, .string q'.1.t, .slice na3 q'.1.ns.length nc3, .slice ka3 q'.2.list.length kc3] 25)) W2 := by rw [HW2.out]; exact Below.refl _ _
      exact ⟨box_nd e1, box_nd e2⟩
    obtain ⟨d1, hd1⟩ := GP.out.kids p' (List.mem_of_getElem? hp')
    obtain ⟨d2, hd2⟩ := GQ.out.kids q' (List.mem_of_getElem? hq')
    have HK : Hid (Calls Try.prog 30 #[.agg #[.int .i64 p'.1.k, .int .i64 p'.1.n, .int .i64 p'.1.s, .string p'.1.t, .slice na' p'.1.ns.length nc', .slice ka' p'.2.list.length kc'], .agg #[.int .i64 q'.1.k, .int .i64 q'.1.n, .int .i64 q'.1.s, .string q'.1.t, .slice na3 q'.1.ns.length nc3, .slice ka3 q'.2.list.length kc3]] W2 fun e w' => e = .returned (.int .i64 (ordV p' q')) ∧ Below W2.heap.size W2 w') :=
      HI.out p' (wt_kid (List.mem_of_getElem? hp')) (good_of hd1) (HW.out.kid (List.mem_of_getElem? hp')) q' (good_of hd2) (HWq.out.kid (List.mem_of_getElem? hq')) na' nc' ka' kc' na3 nc3 ka3 kc3 W2 ((hvl.below b1).below b2') (hvl2.below b2')
    have HS : Hid (R = if ordV p' q' ≠ 0 then ordV p' q' else cmpF (p.2.drop (k + 1)) false [] (q.2.drop (k + 1)) []) := by
      show _ = _
      have := cmpF_step (st := false) (ns := []) (ms := []) hp' hq'
      simp only [List.drop_nil] at this
      rw [HRk.out, this]
      simp
    have HM : Hid (W1.heap.size = wr.heap.size + 1) := by have := HW1.out; subst this; show _ = _; simp
    have HN3 : Hid (Nd (wr.alloc (.cells #[.int .i64 p'.1.k, .int .i64 p'.1.n, .int .i64 p'.1.s, .string p'.1.t, .slice na' p'.1.ns.length nc', .slice ka' p'.2.list.length kc'] 25)) b2 (o2 + k * 6) q'.1 na3 nc3 ka3 q'.2.list.length kc3) := by rw [← HW1.out] at hnd2; exact hnd2
    have HWa : Hid ((wr.alloc (.cells #[.int .i64 p'.1.k, .int .i64 p'.1.n, .int .i64 p'.1.s, .string p'.1.t, .slice na' p'.1.ns.length nc', .slice ka' p'.2.list.length kc'] 25)).alloc (.cells #[.int .i64 q'.1.k, .int .i64 q'.1.n, .int .i64 q'.1.s, .string q'.1.t, .slice na3 q'.1.ns.length nc3, .slice ka3 q'.2.list.length kc3] 25) = W2) := by rw [← HW1.out] at HW2; exact HW2
    obtain ⟨c0, c1, c2, c3, c4, c5⟩ := hnd
    obtain ⟨e0, e1, e2, e3, e4, e5⟩ := HN3.out
    clear HN3 HN2 HM hnd2 hvl hvl2 hd1 hd2 HRk hp' hq' b1 b2' HW1 HW2 HB1
    generalize ordV p' q' = E at *
    go_wp2_with fail
    generalize hWW : World.alloc (World.alloc wr _) _ = W9
    obtain rfl : W2 = W9 := by rw [← hWW, ← HWa.out]
    clear hWW HWa c0 c1 c2 c3 c4 c5 e0 e1 e2 e3 e4 e5
    refine HK.out.mono ?_
    rintro e w3 ⟨rfl, hb3⟩
    have HB3 : Hid (Below w.heap.size w w3) := HB2.out.trans (hb3.mono HB2.out.size)
    clear HK hb3
    by_cases hE : E = 0
    · subst hE
      go_wp2
      go_roundw
      case rel => exact ⟨k + 1, by omega, by omega, by go_num, HB3.out, show R = _ by simpa using HS.out⟩
      case measure => simp [intOf]; omega
    · go_wp2
      go_ret
      exact ⟨ret_num (by rw [HS.out, if_pos hE]), HB3.out⟩
end Go.Proofs.Ytiddlpjnfophhaa
