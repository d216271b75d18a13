/-
  The contract of value.checkAt and of value.Check.
-/
import Derived.Test.YtoggcabenjmnoaaDoorRcl
namespace Go.Proofs.YtoggcabenjmnoaaDoor
open Go.RowKit
set_option linter.unusedVariables false
set_option maxRecDepth 8000 in
set_option maxHeartbeats 4000000 in
theorem vcheck_step (p : Vt) (ih : RIh 21 p) (hwf : WfV p) (na : Option Addr) (nc : Nat) (ka : Option Addr) (kc : Nat) (d : Int) (hd0 : 0 ≤ d) (hd1 : d ≤ 17) (w : World) (hv : Vl w p na nc ka kc) :
    Calls Tryd.prog 21 #[.agg #[.int .i64 p.1.k, .int .i64 p.1.n, .int .i64 p.1.s, .string p.1.t, .slice na p.1.ns.length nc, .slice ka p.2.list.length kc], .int .i64 d] w fun e w' => e = .returned (.int .i64 (chkV p d)) ∧ Below w.heap.size w w' := by
  by_cases hd : d ≤ 16
  case neg =>
    go_enter Tryd.func21, Tryd.ntmps21
    go_wp2
    go_ret
    exact ⟨ret_int (by rw [chkV, if_pos (by omega)]), (Below.refl _ _).alloc (Nat.le_refl _) _⟩
  have HI : Hid (RIh 21 p) := ih
  have HW : Hid (WfV p) := hwf
  have hkl := hwf.2.1
  have htl := hwf.1.t1
  have b0 : Below w.heap.size w (w.alloc (.cells #[.int .i64 p.1.k, .int .i64 p.1.n, .int .i64 p.1.s, .string p.1.t, .slice na p.1.ns.length nc, .slice ka p.2.list.length kc] 34)) := (Below.refl _ _).alloc (Nat.le_refl _) _
  have HV : Hid (Vl (w.alloc (.cells #[.int .i64 p.1.k, .int .i64 p.1.n, .int .i64 p.1.s, .string p.1.t, .slice na p.1.ns.length nc, .slice ka p.2.list.length kc] 34)) p na nc ka kc) := hv.below b0
  have HB0 : Hid _ := b0
  have HF : Hid (∀ W, Calls Tryd.prog 31 #[.agg #[.int .i64 p.1.k, .int .i64 p.1.n, .int .i64 p.1.s, .string p.1.t, .slice na p.1.ns.length nc, .slice ka p.2.list.length kc]] W fun e w' => e = .returned (.bool (formed p.1 p.2.list.length)) ∧ Below W.heap.size W w') := fun W => formed_any p.1 na nc ka p.2.list.length kc W
  have HN : Hid (∀ W, Nms W na p.1.ns → Calls Tryd.prog 32 #[.agg #[.int .i64 p.1.k, .int .i64 p.1.n, .int .i64 p.1.s, .string p.1.t, .slice na p.1.ns.length nc, .slice ka p.2.list.length kc]] W fun e w' => e = .returned (.bool (named p.1.ns p.2.list.length)) ∧ Below W.heap.size W w') := fun W h => named_any p.1 na nc ka p.2.list.length kc W h hwf.1.c1 hwf.1.e1
  have HC : Hid (∀ W, Below (w.alloc (.cells #[.int .i64 p.1.k, .int .i64 p.1.n, .int .i64 p.1.s, .string p.1.t, .slice na p.1.ns.length nc, .slice ka p.2.list.length kc] 34)).heap.size (w.alloc (.cells #[.int .i64 p.1.k, .int .i64 p.1.n, .int .i64 p.1.s, .string p.1.t, .slice na p.1.ns.length nc, .slice ka p.2.list.length kc] 34)) W → Nd W w.heap.size 0 p.1 na nc ka p.2.list.length kc) := fun W hb =>
    ⟨box_get (six p.1 na nc ka p.2.list.length kc) 34 hb 0 _ rfl, box_get (six p.1 na nc ka p.2.list.length kc) 34 hb 1 _ rfl, box_get (six p.1 na nc ka p.2.list.length kc) 34 hb 2 _ rfl, box_get (six p.1 na nc ka p.2.list.length kc) 34 hb 3 _ rfl, box_get (six p.1 na nc ka p.2.list.length kc) 34 hb 4 _ rfl, box_get (six p.1 na nc ka p.2.list.length kc) 34 hb 5 _ rfl⟩
  clear hv ih hwf b0
  go_enter Tryd.func21, Tryd.ntmps21
  go_wp2_with fail
  generalize (w.alloc (.cells #[.int .i64 p.1.k, .int .i64 p.1.n, .int .i64 p.1.s, .string p.1.t, .slice na p.1.ns.length nc, .slice ka p.2.list.length kc] 34)) = w1 at *
  refine (HF.out w1).mono ?_
  rintro e w2 ⟨rfl, hb2⟩
  have HB2 : Hid (Below w1.heap.size w1 w2) := hb2
  obtain ⟨c0, c1, c2, c3, c4, c5⟩ := HC.out w2 hb2
  simp only [Nat.zero_add] at c1 c2 c3 c4 c5
  clear hb2 HF
  cases hf : formed p.1 p.2.list.length with
  | false =>
    go_wp2
    go_ret
    exact ⟨ret_int ((own_no hf).trans (chkV_own hd (by rw [← own_no hf]; decide))), HB0.out.trans (HB2.out.mono HB0.out.size)⟩
  | true =>
  by_cases hT : 16384 < p.1.t.size ∨ 200 < p.2.list.length
  · have hO : 5 = own p.1 p.2.list.length := by simp only [own, hf, if_true]; rw [if_pos hT]
    have HO : Hid (5 = chkV p d) := hO.trans (chkV_own hd (by rw [← hO]; decide))
    clear hO
    by_cases hT2 : 16384 < p.1.t.size
    · go_wp2
      go_ret
      exact ⟨ret_int HO.out, HB0.out.trans (HB2.out.mono HB0.out.size)⟩
    · have hT3 : 200 < p.2.list.length := by omega
      go_wp2
      go_ret
      exact ⟨ret_int HO.out, HB0.out.trans (HB2.out.mono HB0.out.size)⟩
  have hT2 : ¬ 16384 < p.1.t.size := by omega
  have hT3 : ¬ 200 < p.2.list.length := by omega
  by_cases hk9 : p.1.k = 9
  · have HK9 : Hid (p.1.k = 9) := hk9
    have hkb : (p.1.k == 9) = true := by simp [hk9]
    clear hk9
    go_wp2_with fail
    refine (HN.out w2 (HV.out.nms.below HB2.out)).mono ?_
    rintro e w3 ⟨rfl, hb3⟩
    have HB3 : Hid (Below w1.heap.size w1 w3) := HB2.out.trans (hb3.mono HB2.out.size)
    have d5 := (HC.out w3 HB3.out).c5
    simp only [Nat.zero_add] at d5
    clear hb3
    cases hnm : named p.1.ns p.2.list.length with
    | false =>
      have hO : 3 = own p.1 p.2.list.length := by
        simp only [own, hf, if_true]
        rw [if_neg hT, if_pos ⟨HK9.out, hnm⟩]
      have HO : Hid (3 = chkV p d) := hO.trans (chkV_own hd (by rw [← hO]; decide))
      clear hO HB2
      go_wp2
      go_ret
      exact ⟨ret_int HO.out, HB0.out.trans (HB3.out.mono HB0.out.size)⟩
    | true =>
      have HR : Hid (chkV p d = chk (p.2.drop 0) (d + 1)) := chkV_kids hd (by
        simp only [own, hf, if_true]
        rw [if_neg hT, if_neg (by simp [hnm])])
      have HB2 : Hid (Below w1.heap.size w1 w3) := HB3.out
      clear HB3
      go_wp2
      go_loopw [34] (fun i wr => ∃ k : Nat, k ≤ p.2.list.length ∧ i = .int .i64 (k : Int) ∧ Hid (Below w1.heap.size w1 wr) ∧ Hid (chkV p d = chk (p.2.drop k) (d + 1))) (fun i _ => p.2.list.length - (intOf i).toNat)
      case atStart => exact ⟨0, by omega, rfl, HB2.out, HR.out⟩
      case round =>
        obtain ⟨k, hk0, rfl, HB, HRk⟩ := hrel
        by_cases hlt : k < p.2.list.length
        case neg =>
          go_wp2
          go_ret
          exact ⟨ret_int (by rw [HRk.out, Fo.drop_end _ _ (by omega)]; rfl), HB0.out.trans (HB.out.mono HB0.out.size)⟩
        obtain ⟨q, b, o, na', nc', ka', kc', hq, rfl, hnd, hvl⟩ := HV.out.kid HB.out (k := k) hlt
        have HQ := HI.out q (wt_kid (List.mem_of_getElem? hq)) (HW.out.kid (List.mem_of_getElem? hq)) na' nc' ka' kc' (d + 1) (wr.alloc (.cells #[.int .i64 q.1.k, .int .i64 q.1.n, .int .i64 q.1.s, .string q.1.t, .slice na' q.1.ns.length nc', .slice ka' q.2.list.length kc'] 34)) (by omega) (by omega) (hvl.below ((Below.refl _ _).alloc (Nat.le_refl _) _))
        have HS : Hid (chkV p d = if chkV q (d + 1) ≠ 0 then chkV q (d + 1) else chk (p.2.drop (k + 1)) (d + 1)) := HRk.out.trans (chk_step hq)
        obtain ⟨d0, d1, d2, d3, d4, d5⟩ := hnd
        generalize chkV q (d + 1) = E at *
        clear hvl hq HRk
        go_wp2_with fail
        refine HQ.mono ?_
        rintro e w3 ⟨rfl, hb3⟩
        have HB3 : Hid (Below w1.heap.size w1 w3) := HB.out.trans ((box_below _ hb3).mono HB.out.size)
        clear HQ hb3
        by_cases hE : E = 0
        · subst hE
          go_wp2
          go_roundw
          case rel => exact ⟨k + 1, by omega, by go_num, HB3.out, show chkV p d = _ by simpa using HS.out⟩
          case measure => simp [intOf]; omega
        · go_wp2
          go_ret
          exact ⟨ret_int (by rw [HS.out, if_pos hE]), HB0.out.trans (HB3.out.mono HB0.out.size)⟩
  · have HR : Hid (chkV p d = chk (p.2.drop 0) (d + 1)) := chkV_kids hd (by
      simp only [own, hf, if_true]
      rw [if_neg hT, if_neg (by simp [hk9])])
    go_wp2
    go_loopw [34] (fun i wr => ∃ k : Nat, k ≤ p.2.list.length ∧ i = .int .i64 (k : Int) ∧ Hid (Below w1.heap.size w1 wr) ∧ Hid (chkV p d = chk (p.2.drop k) (d + 1))) (fun i _ => p.2.list.length - (intOf i).toNat)
    case atStart => exact ⟨0, by omega, rfl, HB2.out, HR.out⟩
    case round =>
      obtain ⟨k, hk0, rfl, HB, HRk⟩ := hrel
      by_cases hlt : k < p.2.list.length
      case neg =>
        go_wp2
        go_ret
        exact ⟨ret_int (by rw [HRk.out, Fo.drop_end _ _ (by omega)]; rfl), HB0.out.trans (HB.out.mono HB0.out.size)⟩
      obtain ⟨q, b, o, na', nc', ka', kc', hq, rfl, hnd, hvl⟩ := HV.out.kid HB.out (k := k) hlt
      have HQ := HI.out q (wt_kid (List.mem_of_getElem? hq)) (HW.out.kid (List.mem_of_getElem? hq)) na' nc' ka' kc' (d + 1) (wr.alloc (.cells #[.int .i64 q.1.k, .int .i64 q.1.n, .int .i64 q.1.s, .string q.1.t, .slice na' q.1.ns.length nc', .slice ka' q.2.list.length kc'] 34)) (by omega) (by omega) (hvl.below ((Below.refl _ _).alloc (Nat.le_refl _) _))
      have HS : Hid (chkV p d = if chkV q (d + 1) ≠ 0 then chkV q (d + 1) else chk (p.2.drop (k + 1)) (d + 1)) := HRk.out.trans (chk_step hq)
      obtain ⟨d0, d1, d2, d3, d4, d5⟩ := hnd
      generalize chkV q (d + 1) = E at *
      clear hvl hq HRk
      go_wp2_with fail
      refine HQ.mono ?_
      rintro e w3 ⟨rfl, hb3⟩
      have HB3 : Hid (Below w1.heap.size w1 w3) := HB.out.trans ((box_below _ hb3).mono HB.out.size)
      clear HQ hb3
      by_cases hE : E = 0
      · subst hE
        go_wp2
        go_roundw
        case rel => exact ⟨k + 1, by omega, by go_num, HB3.out, show chkV p d = _ by simpa using HS.out⟩
        case measure => simp [intOf]; omega
      · go_wp2
        go_ret
        exact ⟨ret_int (by rw [HS.out, if_pos hE]), HB0.out.trans (HB3.out.mono HB0.out.size)⟩
theorem vcheck_any : ∀ (n : Nat) (p : Vt), wt p ≤ n → WfV p → ∀ (na : Option Addr) (nc : Nat) (ka : Option Addr) (kc : Nat) (d : Int) (W : World), 0 ≤ d → d ≤ 17 → Vl W p na nc ka kc →
    Calls Tryd.prog 21 #[.agg #[.int .i64 p.1.k, .int .i64 p.1.n, .int .i64 p.1.s, .string p.1.t, .slice na p.1.ns.length nc, .slice ka p.2.list.length kc], .int .i64 d] W fun e w' => e = .returned (.int .i64 (chkV p d)) ∧ Below W.heap.size W w' := by
  intro n
  induction n with
  | zero => intro p hp; exfalso; unfold wt at hp; omega
  | succ n ih =>
    intro p hp hwf na nc ka kc d W hd0 hd1 hv
    exact vcheck_step p (fun q hq hwq na nc ka kc d W h1 h2 h3 => ih q (by omega) hwq na nc ka kc d W h1 h2 h3) hwf na nc ka kc d hd0 hd1 W hv
/-- What Check answers. -/
def CkC (F : Nat) : Prop := ∀ (p : Vt), WfV p → ∀ (na : Option Addr) (nc : Nat) (ka : Option Addr) (kc : Nat) (W : World), Vl W p na nc ka kc →
    Calls Tryd.prog F #[.agg #[.int .i64 p.1.k, .int .i64 p.1.n, .int .i64 p.1.s, .string p.1.t, .slice na p.1.ns.length nc, .slice ka p.2.list.length kc]] W fun e w' => e = .returned (.int .i64 (chkV p 1)) ∧ Below W.heap.size W w'
theorem vCheck_any : CkC 13 := by
  intro p hwf na nc ka kc W hv
  have HQ : Hid (∀ W', Vl W' p na nc ka kc → Calls Tryd.prog 21 #[.agg #[.int .i64 p.1.k, .int .i64 p.1.n, .int .i64 p.1.s, .string p.1.t, .slice na p.1.ns.length nc, .slice ka p.2.list.length kc], .int .i64 1] W' fun e w' => e = .returned (.int .i64 (chkV p 1)) ∧ Below W'.heap.size W' w') := fun W' h => vcheck_any _ p (Nat.le_refl _) hwf na nc ka kc 1 W' (by omega) (by omega) h
  generalize chkV p 1 = E at *
  have HV : Hid (Vl W p na nc ka kc) := hv
  clear hv
  go_enter Tryd.func13, Tryd.ntmps13
  go_wp2_with fail
  refine (HQ.out _ (HV.out.below ((Below.refl _ _).alloc (Nat.le_refl _) _))).mono ?_
  rintro e w2 ⟨rfl, hb2⟩
  have HB : Hid (Below W.heap.size W w2) := box_below _ hb2
  clear hb2 HQ
  go_wp2
  go_ret
  exact ⟨rfl, HB.out⟩
end Go.Proofs.YtoggcabenjmnoaaDoor
