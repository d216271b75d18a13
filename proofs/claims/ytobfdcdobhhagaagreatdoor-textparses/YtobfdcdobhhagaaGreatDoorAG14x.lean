/-
   ·  ·  · 
-/
import Derived.Test.YtobfdcdobhhagaaGreatDoorAG13x
import Derived.Deep.MidRow
namespace Go.Proofs.YtobfdcdobhhagaaGreatDoor
set_option maxHeartbeats 4000000
set_option maxRecDepth 8000
open Go.RowKit
set_option linter.unusedVariables false
theorem vcheck_step (p : Vt) (ih : RIh 37 p) (hwf : WfV p) (na : Option Addr) (nc : Nat) (ka : Option Addr) (kc : Nat) (d : Int) (hd0 : 0 <= d) (hd1 : d <= 17) (w : World) (hv : Vl w p na nc ka kc) :
 Calls Tryz.prog 37 #[.agg #[.int .i64 p.1.k, .int .i64 p.1.n, .int .i64 p.1.s, .string p.1.t, .slice na p.1.ns.length nc, .slice ka p.2.list.length kc], .int .i64 d] w fun e w' => e = .returned (.int .i64 (chkV p d)) /\ Below w.heap.size w w' := by
 by_cases hd : d <= 16
 case neg =>
  go_enter Tryz.func37, Tryz.ntmps37
  go_wp2
  go_ret
  exact ⟨ret_int (by rw [chkV, if_pos (by omega)]), (Below.refl _ _).alloc (Nat.le_refl _) _⟩
 have HI : Hid (RIh 37 p) := ih
 have HW : Hid (WfV p) := hwf
 have hkl := hwf.2.1
 have htl := hwf.1.t1
 have b0 : Below w.heap.size w (w.alloc (.cells #[.int .i64 p.1.k, .int .i64 p.1.n, .int .i64 p.1.s, .string p.1.t, .slice na p.1.ns.length nc, .slice ka p.2.list.length kc] 38)) := (Below.refl _ _).alloc (Nat.le_refl _) _
 have HV : Hid (Vl (w.alloc (.cells #[.int .i64 p.1.k, .int .i64 p.1.n, .int .i64 p.1.s, .string p.1.t, .slice na p.1.ns.length nc, .slice ka p.2.list.length kc] 38)) p na nc ka kc) := hv.below b0
 have HB0 : Hid _ := b0
 have HF : Hid (∀ W, Calls Tryz.prog 79 #[.agg #[.int .i64 p.1.k, .int .i64 p.1.n, .int .i64 p.1.s, .string p.1.t, .slice na p.1.ns.length nc, .slice ka p.2.list.length kc]] W fun e w' => e = .returned (.bool (formed p.1 p.2.list.length)) /\ Below W.heap.size W w') := fun W => formed_any p.1 na nc ka p.2.list.length kc W
 have HN : Hid (∀ W, Nms W na p.1.ns -> Calls Tryz.prog 80 #[.agg #[.int .i64 p.1.k, .int .i64 p.1.n, .int .i64 p.1.s, .string p.1.t, .slice na p.1.ns.length nc, .slice ka p.2.list.length kc]] W fun e w' => e = .returned (.bool (named p.1.ns p.2.list.length)) /\ Below W.heap.size W w') := fun W h => named_any p.1 na nc ka p.2.list.length kc W h hwf.1.c1 hwf.1.e1
 have HC : Hid (∀ W, Below (w.alloc (.cells #[.int .i64 p.1.k, .int .i64 p.1.n, .int .i64 p.1.s, .string p.1.t, .slice na p.1.ns.length nc, .slice ka p.2.list.length kc] 38)).heap.size (w.alloc (.cells #[.int .i64 p.1.k, .int .i64 p.1.n, .int .i64 p.1.s, .string p.1.t, .slice na p.1.ns.length nc, .slice ka p.2.list.length kc] 38)) W -> Nd W w.heap.size 0 p.1 na nc ka p.2.list.length kc) := fun W hb =>
  ⟨box_get (six p.1 na nc ka p.2.list.length kc) 38 hb 0 _ rfl, box_get (six p.1 na nc ka p.2.list.length kc) 38 hb 1 _ rfl, box_get (six p.1 na nc ka p.2.list.length kc) 38 hb 2 _ rfl, box_get (six p.1 na nc ka p.2.list.length kc) 38 hb 3 _ rfl, box_get (six p.1 na nc ka p.2.list.length kc) 38 hb 4 _ rfl, box_get (six p.1 na nc ka p.2.list.length kc) 38 hb 5 _ rfl⟩
 clear hv ih hwf b0
 go_enter Tryz.func37, Tryz.ntmps37
 go_wp2_with fail
 generalize (w.alloc (.cells #[.int .i64 p.1.k, .int .i64 p.1.n, .int .i64 p.1.s, .string p.1.t, .slice na p.1.ns.length nc, .slice ka p.2.list.length kc] 38)) = w1 at *
 refine (HF.out w1).mono ?_
 rintro e w2 ⟨rfl, hb2⟩
 have HB2 : Hid (Below w1.heap.size w1 w2) := hb2
 obtain ⟨c0, c1, c2, c3, c4, c5⟩ := HC.out w2 hb2
 simp only [Nat.zero_add] at c1 c2 c3 c4 c5
 clear hb2 HF
 cases hf : formed p.1 p.2.list.length with
 | false =>
   go_wp2
   go_ret
   exact ⟨ret_int ((own_no hf).trans (chkV_own hd (by rw [<- own_no hf]; decide))), HB0.out.trans (HB2.out.mono HB0.out.size)⟩
 | true =>
 by_cases hT : 16384 < p.1.t.size ∨ 200 < p.2.list.length
 . have hO : 5 = own p.1 p.2.list.length := by simp only [own, hf, if_true]; rw [if_pos hT]
   have HO : Hid (5 = chkV p d) := hO.trans (chkV_own hd (by rw [<- hO]; decide))
   clear hO
   by_cases hT2 : 16384 < p.1.t.size
   . go_wp2
     go_ret
     exact ⟨ret_int HO.out, HB0.out.trans (HB2.out.mono HB0.out.size)⟩
   . have hT3 : 200 < p.2.list.length := by omega
     go_wp2
     go_ret
     exact ⟨ret_int HO.out, HB0.out.trans (HB2.out.mono HB0.out.size)⟩
 have hT2 : ¬ 16384 < p.1.t.size := by omega
 have hT3 : ¬ 200 < p.2.list.length := by omega
 by_cases hk9 : p.1.k = 9
 . have HK9 : Hid (p.1.k = 9) := hk9
   have hkb : (p.1.k == 9) = true := by simp [hk9]
   clear hk9
   go_wp2_with fail
   refine (HN.out w2 (HV.out.nms.below HB2.out)).mono ?_
   rintro e w3 ⟨rfl, hb3⟩
   have HB3 : Hid (Below w1.heap.size w1 w3) := HB2.out.trans (hb3.mono HB2.out.size)
   have d5 := (HC.out w3 HB3.out).c5
   simp only [Nat.zero_add] at d5
   clear hb3
   cases hnm : named p.1.ns p.2.list.length with
   | false =>
     have hO : 3 = own p.1 p.2.list.length := by
      simp only [own, hf, if_true]
      rw [if_neg hT, if_pos ⟨HK9.out, hnm⟩]
     have HO : Hid (3 = chkV p d) := hO.trans (chkV_own hd (by rw [<- hO]; decide))
     clear hO HB2
     go_wp2
     go_ret
     exact ⟨ret_int HO.out, HB0.out.trans (HB3.out.mono HB0.out.size)⟩
   | true =>
     have HR : Hid (chkV p d = chk (p.2.drop 0) (d + 1)) := chkV_kids hd (by
      simp only [own, hf, if_true]
      rw [if_neg hT, if_neg (by simp [hnm])])
     have HB2 : Hid (Below w1.heap.size w1 w3) := HB3.out
     clear HB3
     go_wp2
     go_loopw [34] (fun i wr => ∃ k : Nat, k <= p.2.list.length /\ i = .int .i64 (k : Int) /\ Hid (Below w1.heap.size w1 wr) /\ Hid (chkV p d = chk (p.2.drop k) (d + 1))) (fun i _ => p.2.list.length - (intOf i).toNat)
     case atStart => exact ⟨0, by omega, rfl, HB2.out, HR.out⟩
     case round =>
      obtain ⟨k, hk0, rfl, HB, HRk⟩ := hrel
      by_cases hlt : k < p.2.list.length
      case neg =>
       go_wp2
       go_ret
       exact ⟨ret_int (by rw [HRk.out, Fo.drop_end _ _ (by omega)]; rfl), HB0.out.trans (HB.out.mono HB0.out.size)⟩
      obtain ⟨q, b, o, na', nc', ka', kc', hq, rfl, hnd, hvl⟩ := HV.out.kid HB.out (k := k) hlt
      have HQ := HI.out q (wt_kid (List.mem_of_getElem? hq)) (HW.out.kid (List.mem_of_getElem? hq)) na' nc' ka' kc' (d + 1) (wr.alloc (.cells #[.int .i64 q.1.k, .int .i64 q.1.n, .int .i64 q.1.s, .string q.1.t, .slice na' q.1.ns.length nc', .slice ka' q.2.list.length kc'] 38)) (by omega) (by omega) (hvl.below ((Below.refl _ _).alloc (Nat.le_refl _) _))
      have HS : Hid (chkV p d = if chkV q (d + 1) ≠ 0 then chkV q (d + 1) else chk (p.2.drop (k + 1)) (d + 1)) := HRk.out.trans (chk_step hq)
      obtain ⟨d0, d1, d2, d3, d4, d5⟩ := hnd
      generalize chkV q (d + 1) = E at *
      clear hvl hq HRk
      go_wp2_with fail
      refine HQ.mono ?_
      rintro e w3 ⟨rfl, hb3⟩
      have HB3 : Hid (Below w1.heap.size w1 w3) := HB.out.trans ((box_below _ hb3).mono HB.out.size)
      clear HQ hb3
      by_cases hE : E = 0
      . subst hE
        go_wp2
        go_roundw
        case rel => exact ⟨k + 1, by omega, by go_num, HB3.out, show chkV p d = _ by simpa using HS.out⟩
        case measure => simp [intOf]; omega
      . go_wp2
        go_ret
        exact ⟨ret_int (by rw [HS.out, if_pos hE]), HB0.out.trans (HB3.out.mono HB0.out.size)⟩
 . have HR : Hid (chkV p d = chk (p.2.drop 0) (d + 1)) := chkV_kids hd (by
    simp only [own, hf, if_true]
    rw [if_neg hT, if_neg (by simp [hk9])])
   go_wp2
   go_loopw [34] (fun i wr => ∃ k : Nat, k <= p.2.list.length /\ i = .int .i64 (k : Int) /\ Hid (Below w1.heap.size w1 wr) /\ Hid (chkV p d = chk (p.2.drop k) (d + 1))) (fun i _ => p.2.list.length - (intOf i).toNat)
   case atStart => exact ⟨0, by omega, rfl, HB2.out, HR.out⟩
   case round =>
    obtain ⟨k, hk0, rfl, HB, HRk⟩ := hrel
    by_cases hlt : k < p.2.list.length
    case neg =>
     go_wp2
     go_ret
     exact ⟨ret_int (by rw [HRk.out, Fo.drop_end _ _ (by omega)]; rfl), HB0.out.trans (HB.out.mono HB0.out.size)⟩
    obtain ⟨q, b, o, na', nc', ka', kc', hq, rfl, hnd, hvl⟩ := HV.out.kid HB.out (k := k) hlt
    have HQ := HI.out q (wt_kid (List.mem_of_getElem? hq)) (HW.out.kid (List.mem_of_getElem? hq)) na' nc' ka' kc' (d + 1) (wr.alloc (.cells #[.int .i64 q.1.k, .int .i64 q.1.n, .int .i64 q.1.s, .string q.1.t, .slice na' q.1.ns.length nc', .slice ka' q.2.list.length kc'] 38)) (by omega) (by omega) (hvl.below ((Below.refl _ _).alloc (Nat.le_refl _) _))
    have HS : Hid (chkV p d = if chkV q (d + 1) ≠ 0 then chkV q (d + 1) else chk (p.2.drop (k + 1)) (d + 1)) := HRk.out.trans (chk_step hq)
    obtain ⟨d0, d1, d2, d3, d4, d5⟩ := hnd
    generalize chkV q (d + 1) = E at *
    clear hvl hq HRk
    go_wp2_with fail
    refine HQ.mono ?_
    rintro e w3 ⟨rfl, hb3⟩
    have HB3 : Hid (Below w1.heap.size w1 w3) := HB.out.trans ((box_below _ hb3).mono HB.out.size)
    clear HQ hb3
    by_cases hE : E = 0
    . subst hE
      go_wp2
      go_roundw
      case rel => exact ⟨k + 1, by omega, by go_num, HB3.out, show chkV p d = _ by simpa using HS.out⟩
      case measure => simp [intOf]; omega
    . go_wp2
      go_ret
      exact ⟨ret_int (by rw [HS.out, if_pos hE]), HB0.out.trans (HB3.out.mono HB0.out.size)⟩
theorem vcheck_any : ∀ (n : Nat) (p : Vt), wt p <= n -> WfV p -> ∀ (na : Option Addr) (nc : Nat) (ka : Option Addr) (kc : Nat) (d : Int) (W : World), 0 <= d -> d <= 17 -> Vl W p na nc ka kc ->
 Calls Tryz.prog 37 #[.agg #[.int .i64 p.1.k, .int .i64 p.1.n, .int .i64 p.1.s, .string p.1.t, .slice na p.1.ns.length nc, .slice ka p.2.list.length kc], .int .i64 d] W fun e w' => e = .returned (.int .i64 (chkV p d)) /\ Below W.heap.size W w' := by
 intro n
 induction n with
 | zero => intro p hp; exfalso; unfold wt at hp; omega
 | succ n ih =>
   intro p hp hwf na nc ka kc d W hd0 hd1 hv
   exact vcheck_step p (fun q hq hwq na nc ka kc d W h1 h2 h3 => ih q (by omega) hwq na nc ka kc d W h1 h2 h3) hwf na nc ka kc d hd0 hd1 W hv
def CkC (F : Nat) : Prop := ∀ (p : Vt), WfV p -> ∀ (na : Option Addr) (nc : Nat) (ka : Option Addr) (kc : Nat) (W : World), Vl W p na nc ka kc ->
    Calls Tryz.prog F #[.agg #[.int .i64 p.1.k, .int .i64 p.1.n, .int .i64 p.1.s, .string p.1.t, .slice na p.1.ns.length nc, .slice ka p.2.list.length kc]] W fun e w' => e = .returned (.int .i64 (chkV p 1)) /\ Below W.heap.size W w'
theorem vCheck_any : CkC 25 := by
 intro p hwf na nc ka kc W hv
 have HQ : Hid (∀ W', Vl W' p na nc ka kc -> Calls Tryz.prog 37 #[.agg #[.int .i64 p.1.k, .int .i64 p.1.n, .int .i64 p.1.s, .string p.1.t, .slice na p.1.ns.length nc, .slice ka p.2.list.length kc], .int .i64 1] W' fun e w' => e = .returned (.int .i64 (chkV p 1)) /\ Below W'.heap.size W' w') := fun W' h => vcheck_any _ p (Nat.le_refl _) hwf na nc ka kc 1 W' (by omega) (by omega) h
 generalize chkV p 1 = E at *
 have HV : Hid (Vl W p na nc ka kc) := hv
 clear hv
 go_enter Tryz.func25, Tryz.ntmps25
 go_wp2_with fail
 refine (HQ.out _ (HV.out.below ((Below.refl _ _).alloc (Nat.le_refl _) _))).mono ?_
 rintro e w2 ⟨rfl, hb2⟩
 have HB : Hid (Below W.heap.size W w2) := box_below _ hb2
 clear hb2 HQ
 go_wp2
 go_ret
 exact ⟨rfl, HB.out⟩
end Go.Proofs.YtobfdcdobhhagaaGreatDoor
namespace Go.Proofs.YtobfdcdobhhagaaGreatDoor
set_option maxHeartbeats 4000000
set_option maxRecDepth 8000
open Go.RowKit
set_option linter.unusedVariables false
theorem formed_leaf {h : Hd} {kl : Nat} (hk : h.k = 1 ∨ h.k = 2 ∨ h.k = 3 ∨ h.k = 4 ∨ h.k = 5 ∨ h.k = 6 ∨ h.k = 7) (hf : formed h kl = true) : kl = 0 := by
 rcases hk with hk | hk | hk | hk | hk | hk | hk <;> simp [formed, only, hk] at hf <;> omega
theorem list_nil {f : Fo} (h : f.list.length = 0) : f = .nil := by
 cases f with
 | nil => rfl
 | cons h k r => simp [Fo.list] at h
theorem leaf_chk {p : Vt} {d : Int} (hd : d <= 16) (hk : p.1.k = 1 ∨ p.1.k = 2 ∨ p.1.k = 3 ∨ p.1.k = 4 ∨ p.1.k = 5 ∨ p.1.k = 6 ∨ p.1.k = 7) : own p.1 p.2.list.length = chkV p d := by
 by_cases h : own p.1 p.2.list.length = 0
 . rw [h, chkV_kids hd h]
   cases hf : formed p.1 p.2.list.length with
   | false => rw [<- own_no hf] at h; omega
   | true => rw [list_nil (formed_leaf hk hf)]; rfl
 . exact chkV_own hd h
theorem rcheck_none (h : Hd) (na : Option Addr) (nc : Nat) (ka : Option Addr) (kl kc : Nat) (k1 : ¬ h.k = 1) (k2 : ¬ h.k = 2) (k3 : ¬ h.k = 3) (k4 : ¬ h.k = 4) (k5 : ¬ h.k = 5) (k6 : ¬ h.k = 6) (k7 : ¬ h.k = 7) (k8 : ¬ h.k = 8) (k9 : ¬ h.k = 9) (d : Int) (hd : d <= 16) (w : World) :
 Calls Tryz.prog 94 #[.agg #[.int .i64 h.k, .int .i64 h.n, .int .i64 h.s, .string h.t, .slice na h.ns.length nc, .slice ka kl kc], .int .i64 d] w fun e w' => e = .returned (.int .i64 3) /\ Below w.heap.size w w' := by
 go_enter Tryz.func94, Tryz.ntmps94
 go_wp2
 all_goals
  go_ret
  exact ⟨rfl, (Below.refl _ _).alloc (Nat.le_refl _) _⟩
theorem rcheck_deep (h : Hd) (na : Option Addr) (nc : Nat) (ka : Option Addr) (kl kc : Nat) (d : Int) (hd : 16 < d) (w : World) :
 Calls Tryz.prog 94 #[.agg #[.int .i64 h.k, .int .i64 h.n, .int .i64 h.s, .string h.t, .slice na h.ns.length nc, .slice ka kl kc], .int .i64 d] w fun e w' => e = .returned (.int .i64 9) /\ Below w.heap.size w w' := by
 go_enter Tryz.func94, Tryz.ntmps94
 go_wp2
 go_ret
 exact ⟨rfl, (Below.refl _ _).alloc (Nat.le_refl _) _⟩
theorem rcheck_any : ∀ (n : Nat) (p : Vt), wt p <= n -> WfV p -> ∀ (na : Option Addr) (nc : Nat) (ka : Option Addr) (kc : Nat) (d : Int) (W : World), 0 <= d -> d <= 17 -> Vl W p na nc ka kc ->
 Calls Tryz.prog 94 #[.agg #[.int .i64 p.1.k, .int .i64 p.1.n, .int .i64 p.1.s, .string p.1.t, .slice na p.1.ns.length nc, .slice ka p.2.list.length kc], .int .i64 d] W fun e w' => e = .returned (.int .i64 (chkV p d)) /\ Below W.heap.size W w' := by
 intro n
 induction n with
 | zero => intro p hp; exfalso; unfold wt at hp; omega
 | succ n ih =>
   intro p hp hwf na nc ka kc d W hd0 hd1 hv
   have hI : RIh 94 p := fun q hq hwq na nc ka kc d W h1 h2 h3 => ih q (by omega) hwq na nc ka kc d W h1 h2 h3
   by_cases hd : d <= 16
   case neg =>
    refine (rcheck_deep p.1 na nc ka _ kc d (by omega) W).mono ?_
    rintro e w' ⟨rfl, hb⟩
    exact ⟨ret_int (by rw [chkV, if_pos (by omega)]), hb⟩
   by_cases k1 : p.1.k = 1
   . rw [<- leaf_chk hd (.inl k1)]; exact rcheck_1 p.1 na nc ka _ kc k1 hwf.1.t1 d hd W
   by_cases k2 : p.1.k = 2
   . rw [<- leaf_chk hd (.inr (.inl k2))]; exact rcheck_2 p.1 na nc ka _ kc k2 hwf.1.t1 d hd W
   by_cases k3 : p.1.k = 3
   . rw [<- leaf_chk hd (.inr (.inr (.inl k3)))]; exact rcheck_3 p.1 na nc ka _ kc k3 hwf.1.t1 d hd W
   by_cases k4 : p.1.k = 4
   . rw [<- leaf_chk hd (.inr (.inr (.inr (.inl k4))))]; exact rcheck_4 p.1 na nc ka _ kc k4 hwf.1.t1 d hd W
   by_cases k5 : p.1.k = 5
   . rw [<- leaf_chk hd (.inr (.inr (.inr (.inr (.inl k5)))))]; exact rcheck_5 p.1 na nc ka _ kc k5 hwf.1.t1 d hd W
   by_cases k6 : p.1.k = 6
   . rw [<- leaf_chk hd (.inr (.inr (.inr (.inr (.inr (.inl k6))))))]; exact rcheck_6 p.1 na nc ka _ kc k6 hwf.1.t1 d hd W
   by_cases k7 : p.1.k = 7
   . rw [<- leaf_chk hd (.inr (.inr (.inr (.inr (.inr (.inr k7))))))]; exact rcheck_7 p.1 na nc ka _ kc k7 hwf.1.t1 d hd W
   by_cases k8 : p.1.k = 8
   . exact rcheck_8 p hI hwf na nc ka kc k8 d hd0 hd W hv
   by_cases k9 : p.1.k = 9
   . exact rcheck_9 p hI hwf na nc ka kc k9 d hd0 hd W hv
   refine (rcheck_none p.1 na nc ka _ kc k1 k2 k3 k4 k5 k6 k7 k8 k9 d hd W).mono ?_
   rintro e w' ⟨rfl, hb⟩
   have hf : formed p.1 p.2.list.length = false := by simp [formed, k1, k2, k3, k4, k5, k6, k7, k8, k9]
   exact ⟨ret_int ((own_no hf).trans (chkV_own hd (by rw [<- own_no hf]; decide))), hb⟩
theorem rCheck_any : CkC 51 := by
 intro p hwf na nc ka kc W hv
 have HQ : Hid (∀ W', Vl W' p na nc ka kc -> Calls Tryz.prog 94 #[.agg #[.int .i64 p.1.k, .int .i64 p.1.n, .int .i64 p.1.s, .string p.1.t, .slice na p.1.ns.length nc, .slice ka p.2.list.length kc], .int .i64 1] W' fun e w' => e = .returned (.int .i64 (chkV p 1)) /\ Below W'.heap.size W' w') := fun W' h => rcheck_any _ p (Nat.le_refl _) hwf na nc ka kc 1 W' (by omega) (by omega) h
 generalize chkV p 1 = E at *
 have HV : Hid (Vl W p na nc ka kc) := hv
 clear hv
 go_enter Tryz.func51, Tryz.ntmps51
 go_wp2_with fail
 refine (HQ.out _ (HV.out.below ((Below.refl _ _).alloc (Nat.le_refl _) _))).mono ?_
 rintro e w2 ⟨rfl, hb2⟩
 have HB : Hid (Below W.heap.size W w2) := box_below _ hb2
 clear hb2 HQ
 go_wp2
 go_ret
 exact ⟨rfl, HB.out⟩
end Go.Proofs.YtobfdcdobhhagaaGreatDoor
namespace Go.Proofs.YtobfdcdobhhagaaGreatDoor
set_option maxHeartbeats 4000000
set_option maxRecDepth 8000
open Go.RowKit
set_option linter.unusedVariables false
theorem q_region {P : Program} {C : World -> Prop} {id : Nat} {Q : Exit -> Act -> World -> Prop} {a : Act} {w : World} {l : List Oper} (hm : P.follows .mixedOrders = true) (hB : Region.lexB .any l.toArray = true) (hC : C { w with drawn := w.drawn + 1 })
 (h : wpQuiet P l.toArray C (fun a' => ∀ w', C w' -> Q .normal a' w') l a) : (Code.region id l.toArray true).wp P Q a w :=
 wp_region_quiet hm hB hC (by simpa using h)
theorem q_slice {C : World -> Prop} {a : Act} {o : Oper} {K : Act -> Prop} (T : TypeId) (x : Operand) (ho : o.op = .load T x) (b k : Nat) (hx : a.eval x = .pointer (some ⟨b, k, none⟩)) (y : Option Addr) (n c : Nat) (hT : T = 36 ∨ T = 22) (hS : ∀ w, C w -> w.cell? ⟨b, k, none⟩ = some (.slice y n c))
 (hk : K (a.put o.dst (.slice y n c))) : o.quiet Tryz.prog a C K :=
 ⟨_, fun w hw => by
   have h := hS w hw
   unfold Oper.quietAt execOp
   rcases hT with rfl | rfl <;> simp only [ho, hx] <;> go_simp, hk⟩
theorem q_val {C : World -> Prop} {a : Act} {o : Oper} {K : Act -> Prop} (x : Operand) (ho : o.op = .load 38 x) (b k : Nat) (hx : a.eval x = .pointer (some ⟨b, k, none⟩)) (h : Hd) (na : Option Addr) (nc : Nat) (ka : Option Addr) (kl kc : Nat) (hS : ∀ w, C w -> Nd w b k h na nc ka kl kc)
 (hk : K (a.put o.dst (.agg #[.int .i64 h.k, .int .i64 h.n, .int .i64 h.s, .string h.t, .slice na h.ns.length nc, .slice ka kl kc]))) : o.quiet Tryz.prog a C K :=
 ⟨_, fun w hw => by
   obtain ⟨h0, h1, h2, h3, h4, h5⟩ := hS w hw
   unfold Oper.quietAt execOp
   simp only [ho, hx]
   go_simp, hk⟩
theorem Fo.list_inj : ∀ {f g : Fo}, f.list = g.list -> f = g
 | .nil, .nil, _ => rfl
 | .nil, .cons _ _ _, h => by simp [Fo.list] at h
 | .cons _ _ _, .nil, h => by simp [Fo.list] at h
 | .cons h1 k1 r1, .cons h2 k2 r2, h => by
   simp only [Fo.list, List.cons.injEq, Prod.mk.injEq] at h
   obtain ⟨⟨rfl, rfl⟩, h3⟩ := h
   rw [Fo.list_inj h3]
theorem bytes_eq {a b : ByteArray} (h : a.toList = b.toList) : a = b := by
 rw [ByteArray.toList_eq, ByteArray.toList_eq] at h
 cases a; cases b
 simp only [ByteArray.mk.injEq]
 exact Array.ext' h
def EIh (p : Vt) : Prop := ∀ p' : Vt, wt p' < wt p -> WfV p' -> ∀ q' : Vt, WfV q' -> ∀ (na : Option Addr) (nc : Nat) (ka : Option Addr) (kc : Nat) (na2 : Option Addr) (nc2 : Nat) (ka2 : Option Addr) (kc2 : Nat) (W : World), Vl W p' na nc ka kc -> Vl W q' na2 nc2 ka2 kc2 ->
 Calls Tryz.prog 20 #[.agg #[.int .i64 p'.1.k, .int .i64 p'.1.n, .int .i64 p'.1.s, .string p'.1.t, .slice na p'.1.ns.length nc, .slice ka p'.2.list.length kc], .agg #[.int .i64 q'.1.k, .int .i64 q'.1.n, .int .i64 q'.1.s, .string q'.1.t, .slice na2 q'.1.ns.length nc2, .slice ka2 q'.2.list.length kc2]] W
  fun e w' => ∃ t, e = .returned (.bool t) /\ Hid ((t = true ↔ p' = q') /\ Below W.heap.size W w')
theorem equal_no (k n s k2 n2 s2 : Int) (t t2 : ByteArray) (na na2 ka ka2 : Option Addr) (nl nc kl kc nl2 nc2 kl2 kc2 : Nat) (w : World) (hE : ¬ (k = k2 /\ n = n2 /\ s = s2 /\ t.toList = t2.toList /\ nl = nl2 /\ kl = kl2)) :
 Calls Tryz.prog 20 #[.agg #[.int .i64 k, .int .i64 n, .int .i64 s, .string t, .slice na nl nc, .slice ka kl kc], .agg #[.int .i64 k2, .int .i64 n2, .int .i64 s2, .string t2, .slice na2 nl2 nc2, .slice ka2 kl2 kc2]] w fun e w' => e = .returned (.bool false) /\ Below w.heap.size w w' := by
 go_enter Tryz.func20, Tryz.ntmps20
 go_wp2
 all_goals first
  | (go_ret; exact ⟨rfl, ((Below.refl _ _).alloc (Nat.le_refl _) _).alloc (by simp) _⟩)
  | (exfalso; apply hE; simp_all; done)
  | (exfalso; simp only [bne_eq_false_iff_eq] at *; apply hE; refine ⟨?_, ?_, ?_, ?_, ?_, ?_⟩ <;> first | assumption | omega)
theorem equal_yes (k n s : Int) (t : ByteArray) (ns ns2 : List ByteArray) (f f2 : Fo) (ih : EIh (⟨k, n, s, t, ns⟩, f)) (hwf : WfV (⟨k, n, s, t, ns⟩, f)) (hwf2 : WfV (⟨k, n, s, t, ns2⟩, f2)) (na na2 ka ka2 : Option Addr) (nl nc kl kc nc2 kc2 : Nat)
 (HNL : Hid (ns.length = nl)) (HNL2 : Hid (ns2.length = nl)) (HKL : Hid (f.list.length = kl)) (HKL2 : Hid (f2.list.length = kl)) (w : World) (hv : Vl w (⟨k, n, s, t, ns⟩, f) na nc ka kc) (hv2 : Vl w (⟨k, n, s, t, ns2⟩, f2) na2 nc2 ka2 kc2) :
 Calls Tryz.prog 20 #[.agg #[.int .i64 k, .int .i64 n, .int .i64 s, .string t, .slice na nl nc, .slice ka kl kc], .agg #[.int .i64 k, .int .i64 n, .int .i64 s, .string t, .slice na2 nl nc2, .slice ka2 kl kc2]] w
  fun e w' => ∃ r, e = .returned (.bool r) /\ Hid ((r = true ↔ ns = ns2 /\ f = f2) /\ Below w.heap.size w w') := by
 have HI : Hid (EIh (⟨k, n, s, t, ns⟩, f)) := ih
 have HW : Hid (WfV (⟨k, n, s, t, ns⟩, f)) := hwf
 have HW2 : Hid (WfV (⟨k, n, s, t, ns2⟩, f2)) := hwf2
 have hkl : kl <= 140737488355328 := by rw [<- HKL.out]; exact hwf.2.1
 have hnl : nl <= 140737488355328 := by rw [<- HNL.out]; exact hwf.1.c1
 have b0 : Below w.heap.size w ((w.alloc (.cells #[.int .i64 k, .int .i64 n, .int .i64 s, .string t, .slice na nl nc, .slice ka kl kc] 38)).alloc (.cells #[.int .i64 k, .int .i64 n, .int .i64 s, .string t, .slice na2 nl nc2, .slice ka2 kl kc2] 38)) := ((Below.refl _ _).alloc (Nat.le_refl _) _).alloc (by simp) _
 have HV : Hid (Vl ((w.alloc (.cells #[.int .i64 k, .int .i64 n, .int .i64 s, .string t, .slice na nl nc, .slice ka kl kc] 38)).alloc (.cells #[.int .i64 k, .int .i64 n, .int .i64 s, .string t, .slice na2 nl nc2, .slice ka2 kl kc2] 38)) (⟨k, n, s, t, ns⟩, f) na nc ka kc) := hv.below b0
 have HV2 : Hid (Vl ((w.alloc (.cells #[.int .i64 k, .int .i64 n, .int .i64 s, .string t, .slice na nl nc, .slice ka kl kc] 38)).alloc (.cells #[.int .i64 k, .int .i64 n, .int .i64 s, .string t, .slice na2 nl nc2, .slice ka2 kl kc2] 38)) (⟨k, n, s, t, ns2⟩, f2) na2 nc2 ka2 kc2) := hv2.below b0
 have HB0 : Hid (Below w.heap.size w ((w.alloc (.cells #[.int .i64 k, .int .i64 n, .int .i64 s, .string t, .slice na nl nc, .slice ka kl kc] 38)).alloc (.cells #[.int .i64 k, .int .i64 n, .int .i64 s, .string t, .slice na2 nl nc2, .slice ka2 kl kc2] 38))) := b0
 have HC : Hid (∀ W, Below ((w.alloc (.cells #[.int .i64 k, .int .i64 n, .int .i64 s, .string t, .slice na nl nc, .slice ka kl kc] 38)).alloc (.cells #[.int .i64 k, .int .i64 n, .int .i64 s, .string t, .slice na2 nl nc2, .slice ka2 kl kc2] 38)).heap.size ((w.alloc (.cells #[.int .i64 k, .int .i64 n, .int .i64 s, .string t, .slice na nl nc, .slice ka kl kc] 38)).alloc (.cells #[.int .i64 k, .int .i64 n, .int .i64 s, .string t, .slice na2 nl nc2, .slice ka2 kl kc2] 38)) W -> W.cell? ⟨w.heap.size, 4, none⟩ = some (.slice na nl nc) /\ W.cell? ⟨w.heap.size, 5, none⟩ = some (.slice ka kl kc) /\ W.cell? ⟨w.heap.size + 1, 4, none⟩ = some (.slice na2 nl nc2) /\ W.cell? ⟨w.heap.size + 1, 5, none⟩ = some (.slice ka2 kl kc2)) := fun W hb => by
  have e1 : Below (w.alloc (.cells #[.int .i64 k, .int .i64 n, .int .i64 s, .string t, .slice na nl nc, .slice ka kl kc] 38)).heap.size (w.alloc (.cells #[.int .i64 k, .int .i64 n, .int .i64 s, .string t, .slice na nl nc, .slice ka kl kc] 38)) W := ((Below.refl _ _).alloc (Nat.le_refl _) _).trans (hb.mono (by simp))
  have g1 := fun j v hj => box_get [.int .i64 k, .int .i64 n, .int .i64 s, .string t, .slice na nl nc, .slice ka kl kc] 38 e1 j v hj
  have g2 := fun j v hj => box_get [.int .i64 k, .int .i64 n, .int .i64 s, .string t, .slice na2 nl nc2, .slice ka2 kl kc2] 38 hb j v hj
  have e2 : (w.alloc (.cells #[.int .i64 k, .int .i64 n, .int .i64 s, .string t, .slice na nl nc, .slice ka kl kc] 38)).heap.size = w.heap.size + 1 := by simp
  rw [e2] at g2
  exact ⟨g1 4 _ rfl, g1 5 _ rfl, g2 4 _ rfl, g2 5 _ rfl⟩
 clear ih hwf hwf2 hv hv2 b0
 go_enter Tryz.func20, Tryz.ntmps20
 go_wp2
 generalize ((w.alloc (.cells #[.int .i64 k, .int .i64 n, .int .i64 s, .string t, .slice na nl nc, .slice ka kl kc] 38)).alloc (.cells #[.int .i64 k, .int .i64 n, .int .i64 s, .string t, .slice na2 nl nc2, .slice ka2 kl kc2] 38)) = w1 at *
 go_loopw [5] (fun i wr => ∃ j : Nat, j <= nl /\ i = .int .i64 (j : Int) /\ Hid (Below w1.heap.size w1 wr) /\ Hid (∀ l, l < j -> ns[l]? = ns2[l]?)) (fun i _ => nl - (intOf i).toNat)
 case atStart => exact ⟨0, by omega, rfl, Below.refl _ _, fun l hl => by omega⟩
 case round =>
  obtain ⟨j, hj0, rfl, HB, HJ⟩ := hrel
  obtain ⟨c4, c5, e4, e5⟩ := HC.out wr HB.out
  by_cases hlt : j < nl
  case pos =>
   obtain ⟨x, hx⟩ : ∃ x, ns[j]? = some x := ⟨_, List.getElem?_eq_getElem (by rw [HNL.out]; exact hlt)⟩
   obtain ⟨y, hy⟩ : ∃ y, ns2[j]? = some y := ⟨_, List.getElem?_eq_getElem (by rw [HNL2.out]; exact hlt)⟩
   obtain ⟨b, o, rfl, hc⟩ : ∃ b o, na = some ⟨b, o, none⟩ /\ ∀ i x, ns[i]? = some x -> wr.cell? ⟨b, o + i, none⟩ = some (.string x) := by
    rcases HV.out.nms.below HB.out with e | h
    . simp only at e; rw [e] at hx; simp at hx
    . exact h
   obtain ⟨b2, o2, rfl, hc2⟩ : ∃ b o, na2 = some ⟨b, o, none⟩ /\ ∀ i x, ns2[i]? = some x -> wr.cell? ⟨b, o + i, none⟩ = some (.string x) := by
    rcases HV2.out.nms.below HB.out with e | h
    . simp only at e; rw [e] at hy; simp at hy
    . exact h
   have cx := hc j x hx
   have cy := hc2 j y hy
   have HX : Hid (ns[j]? = some x /\ ns2[j]? = some y) := ⟨hx, hy⟩
   have HBd : Hid (∀ q, Below w1.heap.size w1 (wr.drewN q)) := fun q => HB.out.trans (below_dq _ _)
   clear hc hc2 hx hy
   cases hxy : (x.toList == y.toList)
   . go_wp2
     go_quiet (fail)
     go_wp2
     go_ret
     refine ⟨false, rfl, ⟨⟨(fun e => by cases e), fun e => ?_⟩, HB0.out.trans ((HBd.out _).mono HB0.out.size)⟩⟩
     have h1 := HX.out.1
     rw [e.1, HX.out.2] at h1
     rw [Option.some.inj h1] at hxy
     simp at hxy
   . have HXY : Hid (x = y) := bytes_eq (by simpa using hxy)
     go_wp2
     go_quiet (fail)
     go_wp2
     go_roundw
     case rel =>
      refine ⟨j + 1, by omega, by go_num, HBd.out _, fun l hl => ?_⟩
      by_cases e : l = j
      . rw [e, HX.out.1, HX.out.2, HXY.out]
      . exact HJ.out l (by omega)
     case measure => simp [intOf]; omega
  case neg =>
   have HNs : Hid (ns = ns2) := by
    refine List.ext_getElem? fun l => ?_
    by_cases hl : l < nl
    . exact HJ.out l (by omega)
    . rw [List.getElem?_eq_none (by rw [HNL.out]; omega), List.getElem?_eq_none (by rw [HNL2.out]; omega)]
   clear HJ
   go_wp2
   go_loopw [6] (fun i wr => ∃ j : Nat, j <= kl /\ i = .int .i64 (j : Int) /\ Hid (Below w1.heap.size w1 wr) /\ Hid (∀ l, l < j -> f.list[l]? = f2.list[l]?)) (fun i _ => kl - (intOf i).toNat)
   case atStart => exact ⟨0, by omega, rfl, HB.out, fun l hl => by omega⟩
   case round =>
    clear c4 c5 e4 e5 hlt hj0
    obtain ⟨m, hm0, rfl, HB2, HM⟩ := hrel
    obtain ⟨c4, c5, e4, e5⟩ := HC.out wr HB2.out
    by_cases hlt : m < kl
    case neg =>
     go_wp2
     go_ret
     refine ⟨true, rfl, ⟨⟨fun _ => ⟨HNs.out, Fo.list_inj ?_⟩, fun _ => rfl⟩, HB0.out.trans (HB2.out.mono HB0.out.size)⟩⟩
     refine List.ext_getElem? fun l => ?_
     by_cases hl : l < kl
     . exact HM.out l (by omega)
     . rw [List.getElem?_eq_none (by rw [HKL.out]; omega), List.getElem?_eq_none (by rw [HKL2.out]; omega)]
    obtain ⟨q, b, o, na', nc', ka', kc', hq, rfl, hnd, hvl⟩ := HV.out.kid HB2.out (k := m) (show m < f.list.length by rw [HKL.out]; exact hlt)
    obtain ⟨q2, b2, o2, na3, nc3, ka3, kc3, hq2, rfl, hnd2, hvl2⟩ := HV2.out.kid HB2.out (k := m) (show m < f2.list.length by rw [HKL2.out]; exact hlt)
    obtain ⟨T, hT⟩ : ∃ T : Bool, (T = true ↔ q = q2) := by
     by_cases e : q = q2
     . exact ⟨true, fun _ => e, fun _ => rfl⟩
     . exact ⟨false, (fun h => by cases h), fun h => absurd h e⟩
    have HTT : Hid (T = true ↔ q = q2) := hT
    have k1 : Hid (∀ W, Below wr.heap.size wr W -> Calls Tryz.prog 20 #[.agg #[.int .i64 q.1.k, .int .i64 q.1.n, .int .i64 q.1.s, .string q.1.t, .slice na' q.1.ns.length nc', .slice ka' q.2.list.length kc'], .agg #[.int .i64 q2.1.k, .int .i64 q2.1.n, .int .i64 q2.1.s, .string q2.1.t, .slice na3 q2.1.ns.length nc3, .slice ka3 q2.2.list.length kc3]] W fun e w' => e = .returned (.bool T) /\ Below wr.heap.size wr w') := fun W hb => by
     refine (HI.out q (wt_kid (List.mem_of_getElem? hq)) (HW.out.kid (List.mem_of_getElem? hq)) q2 (HW2.out.kid (List.mem_of_getElem? hq2)) na' nc' ka' kc' na3 nc3 ka3 kc3 W (hvl.below hb) (hvl2.below hb)).mono ?_
     rintro e w' ⟨t', rfl, h'⟩
     refine ⟨?_, hb.trans (h'.out.2.mono hb.size)⟩
     have h1 := h'.out.1
     have : t' = T := by
      cases t' <;> cases T <;> simp_all
     rw [this]
    have n1 : Hid (∀ W, Below wr.heap.size wr W -> Nd W b (o + m * 6) q.1 na' nc' ka' q.2.list.length kc') := fun W hb => hnd.below hb
    have n2 : Hid (∀ W, Below wr.heap.size wr W -> Nd W b2 (o2 + m * 6) q2.1 na3 nc3 ka3 q2.2.list.length kc3) := fun W hb => hnd2.below hb
    have s1 : Hid (∀ W, Below wr.heap.size wr W -> W.cell? ⟨w.heap.size, 5, none⟩ = some (.slice (some ⟨b, o, none⟩) kl kc)) := fun W hb => (hb.cell (p := ⟨w.heap.size, 5, none⟩) (cell_lt c5)).trans c5
    have s2 : Hid (∀ W, Below wr.heap.size wr W -> W.cell? ⟨w.heap.size + 1, 5, none⟩ = some (.slice (some ⟨b2, o2, none⟩) kl kc2)) := fun W hb => (hb.cell (p := ⟨w.heap.size + 1, 5, none⟩) (cell_lt e5)).trans e5
    have z0 : Hid (Below wr.heap.size wr { wr with drawn := wr.drawn + 1 }) := (Below.refl _ _).drew
    have ZZ : Hid (∀ W, Below wr.heap.size wr W -> Below w1.heap.size w1 W) := fun W hb => HB2.out.trans (hb.mono HB2.out.size)
    have HQ1 : Hid (f.list[m]? = some q /\ f2.list[m]? = some q2) := ⟨hq, hq2⟩
    clear hnd hnd2 hvl hvl2 hq hq2 hT
    go_wp2
    generalize hC : (fun W => Below wr.heap.size wr W) = C
    have hCC : ∀ W, Below wr.heap.size wr W = C W := fun W => by rw [<- hC]
    clear hC
    simp only [hCC] at k1 n1 n2 s1 s2 z0 ZZ
    clear hCC
    have hCp : ∀ p : Prop, (∀ W, C W -> p) ↔ p := fun p => ⟨fun h => h _ z0.out, fun h _ _ => h⟩
    refine q_region (C := C) (by kernel_rfl) (by kernel_rfl) z0.out ?_
    repeat (first
     | go_big_quiet_skip
     | (go_big_quiet_want
        first
        | (refine q_slice 22 (.tmp 76) rfl w.heap.size 5 rfl _ _ _ (by simp) s1.out ?_
           simp only [Act.put, List.setIfInBounds_toArray, List.set_cons_zero, List.set_cons_succ]
           go_big_quiet_on)
        | (refine q_slice 22 (.tmp 81) rfl (w.heap.size + 1) 5 rfl _ _ _ (by simp) s2.out ?_
           simp only [Act.put, List.setIfInBounds_toArray, List.set_cons_zero, List.set_cons_succ]
           go_big_quiet_on)
        | (refine q_val (.tmp 79) rfl b (o + m * 6) rfl _ _ _ _ _ _ n1.out ?_
           simp only [Act.put, List.setIfInBounds_toArray, List.set_cons_zero, List.set_cons_succ]
           go_big_quiet_on)
        | (refine q_val (.tmp 84) rfl b2 (o2 + m * 6) rfl _ _ _ _ _ _ n2.out ?_
           simp only [Act.put, List.setIfInBounds_toArray, List.set_cons_zero, List.set_cons_succ]
           go_big_quiet_on)
        | (go_big_quiet_op
           first
           | go_big_quiet_on
           | (apply Exists.intro
              refine ⟨?_, ?_⟩
              . exact k1.out
              go_big_quiet_on))))
    refine wpQuiet_nil ?_
    intro W hW
    have HZ : Hid (Below w1.heap.size w1 W) := ZZ.out W hW
    clear k1 n1 n2 s1 s2 z0 ZZ hCp hW
    cases T with
    | false =>
      go_wp2
      go_ret
      refine ⟨false, rfl, ⟨⟨(fun e => by cases e), fun e => ?_⟩, HB0.out.trans (HZ.out.mono HB0.out.size)⟩⟩
      have h1 := HQ1.out.1
      rw [e.2, HQ1.out.2] at h1
      exact HTT.out.2 (Option.some.inj h1).symm
    | true =>
      go_wp2
      go_roundw
      case rel =>
       refine ⟨m + 1, by omega, by go_num, HZ.out, fun l hl => ?_⟩
       by_cases e : l = m
       . rw [e, HQ1.out.1, HQ1.out.2, HTT.out.1 rfl]
       . exact HM.out l (by omega)
      case measure => simp [intOf]; omega
theorem equal_any : ∀ (N : Nat) (p : Vt), wt p <= N -> WfV p -> ∀ q : Vt, WfV q -> ∀ (na : Option Addr) (nc : Nat) (ka : Option Addr) (kc : Nat) (na2 : Option Addr) (nc2 : Nat) (ka2 : Option Addr) (kc2 : Nat) (W : World), Vl W p na nc ka kc -> Vl W q na2 nc2 ka2 kc2 ->
 Calls Tryz.prog 20 #[.agg #[.int .i64 p.1.k, .int .i64 p.1.n, .int .i64 p.1.s, .string p.1.t, .slice na p.1.ns.length nc, .slice ka p.2.list.length kc], .agg #[.int .i64 q.1.k, .int .i64 q.1.n, .int .i64 q.1.s, .string q.1.t, .slice na2 q.1.ns.length nc2, .slice ka2 q.2.list.length kc2]] W
  fun e w' => ∃ t, e = .returned (.bool t) /\ Hid ((t = true ↔ p = q) /\ Below W.heap.size W w') := by
 intro N
 induction N with
 | zero => intro p hp; exfalso; unfold wt at hp; omega
 | succ N ih =>
   intro p hp hwf q hwq na nc ka kc na2 nc2 ka2 kc2 W hv hv2
   have hI : EIh p := fun p' hp' hwp' q' hwq' na nc ka kc na2 nc2 ka2 kc2 W h1 h2 => ih p' (by omega) hwp' q' hwq' na nc ka kc na2 nc2 ka2 kc2 W h1 h2
   by_cases hE : p.1.k = q.1.k /\ p.1.n = q.1.n /\ p.1.s = q.1.s /\ p.1.t.toList = q.1.t.toList /\ p.1.ns.length = q.1.ns.length /\ p.2.list.length = q.2.list.length
   case neg =>
    refine (equal_no p.1.k p.1.n p.1.s q.1.k q.1.n q.1.s p.1.t q.1.t na na2 ka ka2 _ nc _ kc _ nc2 _ kc2 W hE).mono ?_
    rintro e w' ⟨rfl, hb⟩
    exact ⟨false, rfl, ⟨⟨(fun h => by cases h), fun h => absurd (by rw [h]; simp) hE⟩, hb⟩⟩
   obtain ⟨⟨k, n, s, t, ns⟩, f⟩ := p
   obtain ⟨⟨k2, n2, s2, t2, ns2⟩, f2⟩ := q
   simp only at hE
   obtain ⟨rfl, rfl, rfl, ht, hn, hl⟩ := hE
   obtain rfl := bytes_eq ht
   have := equal_yes k n s t ns ns2 f f2 hI hwf hwq na na2 ka ka2 _ nc _ kc nc2 kc2 rfl hn.symm rfl hl.symm W hv hv2
   simp only [hn, hl] at this ⊢
   refine this.mono ?_
   rintro e w' ⟨r, rfl, h⟩
   refine ⟨r, rfl, ⟨?_, h.out.2⟩⟩
   rw [h.out.1]
   simp
end Go.Proofs.YtobfdcdobhhagaaGreatDoor
namespace Go.Proofs.YtobfdcdobhhagaaGreatDoor
open Go.RowKit
set_option linter.unusedVariables false
def Blk (w : World) (b : Nat) (t : TypeId) (vs : List Value) : Prop := w.heap[b]? = some (.cells vs.toArray t (0, 0))
theorem Blk.lt {w : World} {b : Nat} {t : TypeId} {vs : List Value} (h : Blk w b t vs) : b < w.heap.size := (Array.getElem?_eq_some_iff.1 h).1
theorem Blk.cell {w : World} {b : Nat} {t : TypeId} {vs : List Value} (h : Blk w b t vs) (i : Nat) : w.cell? ⟨b, i, none⟩ = vs[i]? := by
 rw [cell_of_row w b i _ t (0, 0) h]; simp
theorem Blk.frozen {w : World} {b : Nat} {t : TypeId} {vs : List Value} (h : Blk w b t vs) (i : Nat) : w.frozen? ⟨b, i, none⟩ = false := frozen_of_row w b i _ t h
theorem Blk.kept {w w' : World} {b : Nat} {t : TypeId} {vs : List Value} {row : Option Nat} (h : Blk w b t vs) (hg : w.grownBy w' row) (hne : some b ≠ row) : Blk w' b t vs := by
 unfold Blk; rw [hg.block b h.lt hne]; exact h
theorem Blk.alloc {w : World} {b : Nat} {t : TypeId} {vs : List Value} (h : Blk w b t vs) (o : Obj) : Blk (w.alloc o) b t vs := h.kept (World.grownBy_alloc w o none) (by simp)
theorem blk_new (w : World) (t : TypeId) (vs : List Value) : Blk (w.alloc (.cells vs.toArray t)) w.heap.size t vs := heap_alloc_new w _
theorem grown_setCell (w : World) (a : Addr) (u : Value) : w.grownBy (w.setCell a u) (some a.block) :=
 ⟨rfl, rfl, rfl, by simp [World.setCell], fun k _ hk => Below.heap_setCell _ _ _ _ (fun e => hk (by rw [e]))⟩
theorem Blk.set {w : World} {b : Nat} {t : TypeId} {vs : List Value} (h : Blk w b t vs) (i : Nat) (v : Value) : Blk (w.setCell ⟨b, i, none⟩ v) b t (vs.set i v) := by
 have := heap_setCell_same w b i _ t v h
 unfold Blk; rw [this]; simp
def wsH (h : Hd) : Nat := 1 + h.t.size / 20 + h.ns.length
def Fo.ws : Fo -> Nat
 | .nil => 0
 | .cons h k r => wsH h + k.ws + r.ws
def ws (p : Vt) : Nat := wsH p.1 + p.2.ws
end Go.Proofs.YtobfdcdobhhagaaGreatDoor
