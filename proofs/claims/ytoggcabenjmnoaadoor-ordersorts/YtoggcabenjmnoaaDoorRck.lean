/-
  The contract of the document's own check, whole; and of its Check.
-/
import Derived.Test.YtoggcabenjmnoaaDoorRcs
import Derived.Test.YtoggcabenjmnoaaDoorVch
namespace Go.Proofs.YtoggcabenjmnoaaDoor
open Go.RowKit
set_option linter.unusedVariables false
theorem formed_leaf {h : Hd} {kl : Nat} (hk : h.k = 1 ∨ h.k = 2 ∨ h.k = 3 ∨ h.k = 4 ∨ h.k = 5 ∨ h.k = 6 ∨ h.k = 7) (hf : formed h kl = true) : kl = 0 := by
  rcases hk with hk | hk | hk | hk | hk | hk | hk <;> simp [formed, only, hk] at hf <;> omega
theorem list_nil {f : Fo} (h : f.list.length = 0) : f = .nil := by
  cases f with
  | nil => rfl
  | cons h k r => simp [Fo.list] at h
theorem leaf_chk {p : Vt} {d : Int} (hd : d ≤ 16) (hk : p.1.k = 1 ∨ p.1.k = 2 ∨ p.1.k = 3 ∨ p.1.k = 4 ∨ p.1.k = 5 ∨ p.1.k = 6 ∨ p.1.k = 7) : own p.1 p.2.list.length = chkV p d := by
  by_cases h : own p.1 p.2.list.length = 0
  · rw [h, chkV_kids hd h]
    cases hf : formed p.1 p.2.list.length with
    | false => rw [← own_no hf] at h; omega
    | true => rw [list_nil (formed_leaf hk hf)]; rfl
  · exact chkV_own hd h
set_option maxRecDepth 8000 in
set_option maxHeartbeats 4000000 in
theorem rcheck_none (h : Hd) (na : Option Addr) (nc : Nat) (ka : Option Addr) (kl kc : Nat) (k1 : ¬ h.k = 1) (k2 : ¬ h.k = 2) (k3 : ¬ h.k = 3) (k4 : ¬ h.k = 4) (k5 : ¬ h.k = 5) (k6 : ¬ h.k = 6) (k7 : ¬ h.k = 7) (k8 : ¬ h.k = 8) (k9 : ¬ h.k = 9) (d : Int) (hd : d ≤ 16) (w : World) :
    Calls Tryd.prog 26 #[.agg #[.int .i64 h.k, .int .i64 h.n, .int .i64 h.s, .string h.t, .slice na h.ns.length nc, .slice ka kl kc], .int .i64 d] w fun e w' => e = .returned (.int .i64 3) ∧ Below w.heap.size w w' := by
  go_enter Tryd.func26, Tryd.ntmps26
  go_wp2
  all_goals
    go_ret
    exact ⟨rfl, (Below.refl _ _).alloc (Nat.le_refl _) _⟩
set_option maxRecDepth 8000 in
set_option maxHeartbeats 4000000 in
theorem rcheck_deep (h : Hd) (na : Option Addr) (nc : Nat) (ka : Option Addr) (kl kc : Nat) (d : Int) (hd : 16 < d) (w : World) :
    Calls Tryd.prog 26 #[.agg #[.int .i64 h.k, .int .i64 h.n, .int .i64 h.s, .string h.t, .slice na h.ns.length nc, .slice ka kl kc], .int .i64 d] w fun e w' => e = .returned (.int .i64 9) ∧ Below w.heap.size w w' := by
  go_enter Tryd.func26, Tryd.ntmps26
  go_wp2
  go_ret
  exact ⟨rfl, (Below.refl _ _).alloc (Nat.le_refl _) _⟩
theorem rcheck_any : ∀ (n : Nat) (p : Vt), wt p ≤ n → WfV p → ∀ (na : Option Addr) (nc : Nat) (ka : Option Addr) (kc : Nat) (d : Int) (W : World), 0 ≤ d → d ≤ 17 → Vl W p na nc ka kc →
    Calls Tryd.prog 26 #[.agg #[.int .i64 p.1.k, .int .i64 p.1.n, .int .i64 p.1.s, .string p.1.t, .slice na p.1.ns.length nc, .slice ka p.2.list.length kc], .int .i64 d] W fun e w' => e = .returned (.int .i64 (chkV p d)) ∧ Below W.heap.size W w' := by
  intro n
  induction n with
  | zero => intro p hp; exfalso; unfold wt at hp; omega
  | succ n ih =>
    intro p hp hwf na nc ka kc d W hd0 hd1 hv
    have hI : RIh 26 p := fun q hq hwq na nc ka kc d W h1 h2 h3 => ih q (by omega) hwq na nc ka kc d W h1 h2 h3
    by_cases hd : d ≤ 16
    case neg =>
      refine (rcheck_deep p.1 na nc ka _ kc d (by omega) W).mono ?_
      rintro e w' ⟨rfl, hb⟩
      exact ⟨ret_int (by rw [chkV, if_pos (by omega)]), hb⟩
    by_cases k1 : p.1.k = 1
    · rw [← leaf_chk hd (.inl k1)]; exact rcheck_1 p.1 na nc ka _ kc k1 hwf.1.t1 d hd W
    by_cases k2 : p.1.k = 2
    · rw [← leaf_chk hd (.inr (.inl k2))]; exact rcheck_2 p.1 na nc ka _ kc k2 hwf.1.t1 d hd W
    by_cases k3 : p.1.k = 3
    · rw [← leaf_chk hd (.inr (.inr (.inl k3)))]; exact rcheck_3 p.1 na nc ka _ kc k3 hwf.1.t1 d hd W
    by_cases k4 : p.1.k = 4
    · rw [← leaf_chk hd (.inr (.inr (.inr (.inl k4))))]; exact rcheck_4 p.1 na nc ka _ kc k4 hwf.1.t1 d hd W
    by_cases k5 : p.1.k = 5
    · rw [← leaf_chk hd (.inr (.inr (.inr (.inr (.inl k5)))))]; exact rcheck_5 p.1 na nc ka _ kc k5 hwf.1.t1 d hd W
    by_cases k6 : p.1.k = 6
    · rw [← leaf_chk hd (.inr (.inr (.inr (.inr (.inr (.inl k6))))))]; exact rcheck_6 p.1 na nc ka _ kc k6 hwf.1.t1 d hd W
    by_cases k7 : p.1.k = 7
    · rw [← leaf_chk hd (.inr (.inr (.inr (.inr (.inr (.inr k7))))))]; exact rcheck_7 p.1 na nc ka _ kc k7 hwf.1.t1 d hd W
    by_cases k8 : p.1.k = 8
    · exact rcheck_8 p hI hwf na nc ka kc k8 d hd0 hd W hv
    by_cases k9 : p.1.k = 9
    · exact rcheck_9 p hI hwf na nc ka kc k9 d hd0 hd W hv
    refine (rcheck_none p.1 na nc ka _ kc k1 k2 k3 k4 k5 k6 k7 k8 k9 d hd W).mono ?_
    rintro e w' ⟨rfl, hb⟩
    have hf : formed p.1 p.2.list.length = false := by simp [formed, k1, k2, k3, k4, k5, k6, k7, k8, k9]
    exact ⟨ret_int ((own_no hf).trans (chkV_own hd (by rw [← own_no hf]; decide))), hb⟩
theorem rCheck_any : CkC 15 := by
  intro p hwf na nc ka kc W hv
  have HQ : Hid (∀ W', Vl W' p na nc ka kc → Calls Tryd.prog 26 #[.agg #[.int .i64 p.1.k, .int .i64 p.1.n, .int .i64 p.1.s, .string p.1.t, .slice na p.1.ns.length nc, .slice ka p.2.list.length kc], .int .i64 1] W' fun e w' => e = .returned (.int .i64 (chkV p 1)) ∧ Below W'.heap.size W' w') := fun W' h => rcheck_any _ p (Nat.le_refl _) hwf na nc ka kc 1 W' (by omega) (by omega) h
  generalize chkV p 1 = E at *
  have HV : Hid (Vl W p na nc ka kc) := hv
  clear hv
  go_enter Tryd.func15, Tryd.ntmps15
  go_wp2_with fail
  refine (HQ.out _ (HV.out.below ((Below.refl _ _).alloc (Nat.le_refl _) _))).mono ?_
  rintro e w2 ⟨rfl, hb2⟩
  have HB : Hid (Below W.heap.size W w2) := box_below _ hb2
  clear hb2 HQ
  go_wp2
  go_ret
  exact ⟨rfl, HB.out⟩
#print axioms rCheck_any
end Go.Proofs.YtoggcabenjmnoaaDoor
