/-
  value.compare.
-/
import Derived.Test.YtiddlpjnfophhaaCfn
namespace Go.Proofs.Ytiddlpjnfophhaa
open Go.RowKit
set_option linter.unusedVariables false
set_option maxRecDepth 8000 in
set_option maxHeartbeats 4000000 in
theorem vord_diff (p q : Vt) (ih : OIh 30 p) (gp : Good p) (gq : Good q) (hwf : WfV p) (hwq : WfV q) (na : Option Addr) (nc : Nat) (ka : Option Addr) (kc : Nat) (na2 : Option Addr) (nc2 : Nat) (ka2 : Option Addr) (kc2 : Nat) (w : World) (hv : Vl w p na nc ka kc) (hv2 : Vl w q na2 nc2 ka2 kc2) (hne : cls p.1.k ≠ cls q.1.k) :
    Calls Try.prog 30 #[.agg #[.int .i64 p.1.k, .int .i64 p.1.n, .int .i64 p.1.s, .string p.1.t, .slice na p.1.ns.length nc, .slice ka p.2.list.length kc], .agg #[.int .i64 q.1.k, .int .i64 q.1.n, .int .i64 q.1.s, .string q.1.t, .slice na2 q.1.ns.length nc2, .slice ka2 q.2.list.length kc2]] w fun e w' => e = .returned (.int .i64 (sg (cls p.1.k) (cls q.1.k))) ∧ Below w.heap.size w w' := by
  obtain ⟨w1, HW1⟩ : ∃ w1, Hid (((w.alloc (.cells #[.int .i64 p.1.k, .int .i64 p.1.n, .int .i64 p.1.s, .string p.1.t, .slice na p.1.ns.length nc, .slice ka p.2.list.length kc] 25)).alloc (.cells #[.int .i64 q.1.k, .int .i64 q.1.n, .int .i64 q.1.s, .string q.1.t, .slice na2 q.1.ns.length nc2, .slice ka2 q.2.list.length kc2] 25)) = w1) := ⟨_, rfl⟩
  have b0 : Below w.heap.size w w1 := by rw [← HW1.out]; exact ((Below.refl _ _).alloc (Nat.le_refl _) _).alloc (by simp) _
  have HC : Hid (∀ W, Below w1.heap.size w1 W → Nd W w.heap.size 0 p.1 na nc ka p.2.list.length kc ∧ Nd W (w.heap.size + 1) 0 q.1 na2 nc2 ka2 q.2.list.length kc2) := fun W hb => by
    rw [← HW1.out] at hb
    have e1 : Below (w.alloc (.cells #[.int .i64 p.1.k, .int .i64 p.1.n, .int .i64 p.1.s, .string p.1.t, .slice na p.1.ns.length nc, .slice ka p.2.list.length kc] 25)).heap.size (w.alloc (.cells #[.int .i64 p.1.k, .int .i64 p.1.n, .int .i64 p.1.s, .string p.1.t, .slice na p.1.ns.length nc, .slice ka p.2.list.length kc] 25)) W := ((Below.refl _ _).alloc (Nat.le_refl _) _).trans (hb.mono (by simp))
    have g2 := box_nd hb
    have e2 : (w.alloc (.cells #[.int .i64 p.1.k, .int .i64 p.1.n, .int .i64 p.1.s, .string p.1.t, .slice na p.1.ns.length nc, .slice ka p.2.list.length kc] 25)).heap.size = w.heap.size + 1 := by simp
    rw [e2] at g2
    exact ⟨box_nd e1, g2⟩
  have v1 := hv.below b0
  have v2 := hv2.below b0
  obtain ⟨C, hC⟩ : ∃ C : World → Prop, C = fun W => Below w1.heap.size w1 W := ⟨_, rfl⟩
  have CD : Hid (∀ W, C W → C { W with drawn := W.drawn + 1 }) := fun W h => by rw [hC] at h ⊢; exact h.drew
  have CA : Hid (∀ W o, C W → C (W.alloc o)) := fun W o h => by rw [hC] at h ⊢; exact h.alloc h.size _
  have CB : Hid (∀ W W', C W → Below W.heap.size W W' → C W') := fun W W' h hb => by rw [hC] at h ⊢; exact h.trans (hb.mono h.size)
  have CE : Hid (∀ W, C W → Below w.heap.size w W) := fun W h => by rw [hC] at h; exact b0.trans (h.mono b0.size)
  have HCw : Hid (C w1) := by rw [hC]; exact Below.refl _ _
  have N1 : Hid (∀ W, C W → Nd W w.heap.size 0 p.1 na nc ka p.2.list.length kc) := fun W h => by rw [hC] at h; exact (HC.out W h).1
  have N2 : Hid (∀ W, C W → Nd W (w.heap.size + 1) 0 q.1 na2 nc2 ka2 q.2.list.length kc2) := fun W h => by rw [hC] at h; exact (HC.out W h).2
  have V1 : Hid (∀ W, C W → Vl W p na nc ka kc) := fun W h => by rw [hC] at h; exact v1.below h
  have V2 : Hid (∀ W, C W → Vl W q na2 nc2 ka2 kc2) := fun W h => by rw [hC] at h; exact v2.below h
  have hCp : ∀ p : Prop, (∀ W, C W → p) ↔ p := fun p => ⟨fun h => h _ HCw.out, fun h _ _ => h⟩
  have hkl := hwf.2.1
  have hkl2 := hwq.2.1
  have HI : Hid (OIh 30 p) := ih
  have GP : Hid (Good p) := gp
  have GQ : Hid (Good q) := gq
  have HW : Hid (WfV p) := hwf
  have HWq : Hid (WfV q) := hwq
  have k1 : Hid (∀ W, C W → Calls Try.prog 40 #[.agg #[.int .i64 p.1.k, .int .i64 p.1.n, .int .i64 p.1.s, .string p.1.t, .slice na p.1.ns.length nc, .slice ka p.2.list.length kc]] W fun e w' => e = .returned (.int .u64 (cls p.1.k)) ∧ C w') := fun W hW => (cls40 p.1 na nc ka _ kc gp.k W).mono fun e w' ⟨he, hb⟩ => ⟨he, CB.out _ _ hW hb⟩
  have k2 : Hid (∀ W, C W → Calls Try.prog 40 #[.agg #[.int .i64 q.1.k, .int .i64 q.1.n, .int .i64 q.1.s, .string q.1.t, .slice na2 q.1.ns.length nc2, .slice ka2 q.2.list.length kc2]] W fun e w' => e = .returned (.int .u64 (cls q.1.k)) ∧ C w') := fun W hW => (cls40 q.1 na2 nc2 ka2 _ kc2 gq.k W).mono fun e w' ⟨he, hb⟩ => ⟨he, CB.out _ _ hW hb⟩
  have k3 : Hid (∀ W, C W → Calls Try.prog 39 #[.int .u64 (cls p.1.k), .int .u64 (cls q.1.k)] W fun e w' => e = .returned (.int .i64 (sg (cls p.1.k) (cls q.1.k))) ∧ C w') := keep fun W => cmp39 _ _ W
  clear hC HC b0 v1 v2 ih gp gq hwf hwq hv hv2
  have hb : sg (cls p.1.k) (cls q.1.k) ≠ 0 := fun e => hne (by simp only [sg] at e; (repeat' split at e) <;> omega)
  clear hne
  generalize sg (cls p.1.k) (cls q.1.k) = S at *
  go_enter Try.func30, Try.ntmps30
  go_wp2
  generalize hWW : World.alloc (World.alloc w _) _ = W9
  obtain rfl : w1 = W9 := by rw [← hWW, ← HW1.out]
  clear hWW HW1
  refine q_region (C := C) (by kernel_rfl) (by kernel_rfl) (CD.out _ HCw.out) ?_
  repeat (first
    | go_big_quiet_skip
    | (go_big_quiet_want
       first
       | (refine q_val (.tmp 2) rfl (w.heap.size) 0 rfl _ _ _ _ _ _ N1.out ?_
          simp only [Act.put, List.setIfInBounds_toArray, List.set_cons_zero, List.set_cons_succ]
          go_big_quiet_on)
       | (refine q_val (.tmp 3) rfl (w.heap.size + 1) 0 rfl _ _ _ _ _ _ N2.out ?_
          simp only [Act.put, List.setIfInBounds_toArray, List.set_cons_zero, List.set_cons_succ]
          go_big_quiet_on)
       | (go_big_quiet_op
          first
          | go_big_quiet_on
          | (apply Exists.intro
             refine ⟨?_, ?_⟩
             · first
               | exact k1.out
               | exact k2.out
               | exact k3.out
             go_big_quiet_on))))
  refine wpQuiet_nil ?_
  clear HCw
  intro W hW
  have HCw : Hid (C W) := hW
  clear hW
  clear k1 k2 k3
  go_wp2
  go_ret
  exact ⟨rfl, CE.out _ HCw.out⟩
set_option maxRecDepth 8000 in
set_option maxHeartbeats 4000000 in
theorem vord_null (p q : Vt) (ih : OIh 30 p) (gp : Good p) (gq : Good q) (hwf : WfV p) (hwq : WfV q) (na : Option Addr) (nc : Nat) (ka : Option Addr) (kc : Nat) (na2 : Option Addr) (nc2 : Nat) (ka2 : Option Addr) (kc2 : Nat) (w : World) (hv : Vl w p na nc ka kc) (hv2 : Vl w q na2 nc2 ka2 kc2) (hs : cls p.1.k = cls q.1.k) (hk : p.1.k = 1)  :
    Calls Try.prog 30 #[.agg #[.int .i64 p.1.k, .int .i64 p.1.n, .int .i64 p.1.s, .string p.1.t, .slice na p.1.ns.length nc, .slice ka p.2.list.length kc], .agg #[.int .i64 q.1.k, .int .i64 q.1.n, .int .i64 q.1.s, .string q.1.t, .slice na2 q.1.ns.length nc2, .slice ka2 q.2.list.length kc2]] w fun e w' => e = .returned (.int .i64 (0)) ∧ Below w.heap.size w w' := by
  obtain ⟨w1, HW1⟩ : ∃ w1, Hid (((w.alloc (.cells #[.int .i64 p.1.k, .int .i64 p.1.n, .int .i64 p.1.s, .string p.1.t, .slice na p.1.ns.length nc, .slice ka p.2.list.length kc] 25)).alloc (.cells #[.int .i64 q.1.k, .int .i64 q.1.n, .int .i64 q.1.s, .string q.1.t, .slice na2 q.1.ns.length nc2, .slice ka2 q.2.list.length kc2] 25)) = w1) := ⟨_, rfl⟩
  have b0 : Below w.heap.size w w1 := by rw [← HW1.out]; exact ((Below.refl _ _).alloc (Nat.le_refl _) _).alloc (by simp) _
  have HC : Hid (∀ W, Below w1.heap.size w1 W → Nd W w.heap.size 0 p.1 na nc ka p.2.list.length kc ∧ Nd W (w.heap.size + 1) 0 q.1 na2 nc2 ka2 q.2.list.length kc2) := fun W hb => by
    rw [← HW1.out] at hb
    have e1 : Below (w.alloc (.cells #[.int .i64 p.1.k, .int .i64 p.1.n, .int .i64 p.1.s, .string p.1.t, .slice na p.1.ns.length nc, .slice ka p.2.list.length kc] 25)).heap.size (w.alloc (.cells #[.int .i64 p.1.k, .int .i64 p.1.n, .int .i64 p.1.s, .string p.1.t, .slice na p.1.ns.length nc, .slice ka p.2.list.length kc] 25)) W := ((Below.refl _ _).alloc (Nat.le_refl _) _).trans (hb.mono (by simp))
    have g2 := box_nd hb
    have e2 : (w.alloc (.cells #[.int .i64 p.1.k, .int .i64 p.1.n, .int .i64 p.1.s, .string p.1.t, .slice na p.1.ns.length nc, .slice ka p.2.list.length kc] 25)).heap.size = w.heap.size + 1 := by simp
    rw [e2] at g2
    exact ⟨box_nd e1, g2⟩
  have v1 := hv.below b0
  have v2 := hv2.below b0
  obtain ⟨C, hC⟩ : ∃ C : World → Prop, C = fun W => Below w1.heap.size w1 W := ⟨_, rfl⟩
  have CD : Hid (∀ W, C W → C { W with drawn := W.drawn + 1 }) := fun W h => by rw [hC] at h ⊢; exact h.drew
  have CA : Hid (∀ W o, C W → C (W.alloc o)) := fun W o h => by rw [hC] at h ⊢; exact h.alloc h.size _
  have CB : Hid (∀ W W', C W → Below W.heap.size W W' → C W') := fun W W' h hb => by rw [hC] at h ⊢; exact h.trans (hb.mono h.size)
  have CE : Hid (∀ W, C W → Below w.heap.size w W) := fun W h => by rw [hC] at h; exact b0.trans (h.mono b0.size)
  have HCw : Hid (C w1) := by rw [hC]; exact Below.refl _ _
  have N1 : Hid (∀ W, C W → Nd W w.heap.size 0 p.1 na nc ka p.2.list.length kc) := fun W h => by rw [hC] at h; exact (HC.out W h).1
  have N2 : Hid (∀ W, C W → Nd W (w.heap.size + 1) 0 q.1 na2 nc2 ka2 q.2.list.length kc2) := fun W h => by rw [hC] at h; exact (HC.out W h).2
  have V1 : Hid (∀ W, C W → Vl W p na nc ka kc) := fun W h => by rw [hC] at h; exact v1.below h
  have V2 : Hid (∀ W, C W → Vl W q na2 nc2 ka2 kc2) := fun W h => by rw [hC] at h; exact v2.below h
  have hCp : ∀ p : Prop, (∀ W, C W → p) ↔ p := fun p => ⟨fun h => h _ HCw.out, fun h _ _ => h⟩
  have hkl := hwf.2.1
  have hkl2 := hwq.2.1
  have HI : Hid (OIh 30 p) := ih
  have GP : Hid (Good p) := gp
  have GQ : Hid (Good q) := gq
  have HW : Hid (WfV p) := hwf
  have HWq : Hid (WfV q) := hwq
  have k1 : Hid (∀ W, C W → Calls Try.prog 40 #[.agg #[.int .i64 p.1.k, .int .i64 p.1.n, .int .i64 p.1.s, .string p.1.t, .slice na p.1.ns.length nc, .slice ka p.2.list.length kc]] W fun e w' => e = .returned (.int .u64 (cls p.1.k)) ∧ C w') := fun W hW => (cls40 p.1 na nc ka _ kc gp.k W).mono fun e w' ⟨he, hb⟩ => ⟨he, CB.out _ _ hW hb⟩
  have k2 : Hid (∀ W, C W → Calls Try.prog 40 #[.agg #[.int .i64 q.1.k, .int .i64 q.1.n, .int .i64 q.1.s, .string q.1.t, .slice na2 q.1.ns.length nc2, .slice ka2 q.2.list.length kc2]] W fun e w' => e = .returned (.int .u64 (cls q.1.k)) ∧ C w') := fun W hW => (cls40 q.1 na2 nc2 ka2 _ kc2 gq.k W).mono fun e w' ⟨he, hb⟩ => ⟨he, CB.out _ _ hW hb⟩
  have k3 : Hid (∀ W, C W → Calls Try.prog 39 #[.int .u64 (cls p.1.k), .int .u64 (cls q.1.k)] W fun e w' => e = .returned (.int .i64 0) ∧ C w') := keep fun W => by
    have h := cmp39 (cls p.1.k) (cls q.1.k) W
    rw [hs, sg_self] at h
    rw [hs]
    exact h
  clear hs
  have t2 : (p.1.k == 2) = false := by rw [hk]; rfl
  have t3 : (p.1.k == 3) = false := by rw [hk]; rfl
  have t4 : (p.1.k == 4) = false := by rw [hk]; rfl
  have t5 : (p.1.k == 5) = false := by rw [hk]; rfl
  have t6 : (p.1.k == 6) = false := by rw [hk]; rfl
  have t7 : (p.1.k == 7) = false := by rw [hk]; rfl
  have t8 : (p.1.k == 8) = false := by rw [hk]; rfl
  have t9 : (p.1.k == 9) = false := by rw [hk]; rfl
  clear hk
  clear hC HC b0 v1 v2 ih gp gq hwf hwq hv hv2
  go_enter Try.func30, Try.ntmps30
  go_wp2
  generalize hWW : World.alloc (World.alloc w _) _ = W9
  obtain rfl : w1 = W9 := by rw [← hWW, ← HW1.out]
  clear hWW HW1
  refine q_region (C := C) (by kernel_rfl) (by kernel_rfl) (CD.out _ HCw.out) ?_
  repeat (first
    | go_big_quiet_skip
    | (go_big_quiet_want
       first
       | (refine q_val (.tmp 2) rfl (w.heap.size) 0 rfl _ _ _ _ _ _ N1.out ?_
          simp only [Act.put, List.setIfInBounds_toArray, List.set_cons_zero, List.set_cons_succ]
          go_big_quiet_on)
       | (refine q_val (.tmp 3) rfl (w.heap.size + 1) 0 rfl _ _ _ _ _ _ N2.out ?_
          simp only [Act.put, List.setIfInBounds_toArray, List.set_cons_zero, List.set_cons_succ]
          go_big_quiet_on)
       | (go_big_quiet_op
          first
          | go_big_quiet_on
          | (apply Exists.intro
             refine ⟨?_, ?_⟩
             · first
               | exact k1.out
               | exact k2.out
               | exact k3.out
             go_big_quiet_on))))
  refine wpQuiet_nil ?_
  clear HCw
  intro W hW
  have HCw : Hid (C W) := hW
  clear hW
  clear k1 k2 k3
  obtain ⟨c0, c1, c2, c3, c4, c5⟩ := N1.out W HCw.out
  obtain ⟨e0, e1, e2, e3, e4, e5⟩ := N2.out W HCw.out
  simp only [Nat.zero_add] at c1 c2 c3 c4 c5 e1 e2 e3 e4 e5
  go_wp2
  go_ret
  exact ⟨rfl, CE.out _ HCw.out⟩
set_option maxRecDepth 8000 in
set_option maxHeartbeats 4000000 in
theorem vord_bool (p q : Vt) (ih : OIh 30 p) (gp : Good p) (gq : Good q) (hwf : WfV p) (hwq : WfV q) (na : Option Addr) (nc : Nat) (ka : Option Addr) (kc : Nat) (na2 : Option Addr) (nc2 : Nat) (ka2 : Option Addr) (kc2 : Nat) (w : World) (hv : Vl w p na nc ka kc) (hv2 : Vl w q na2 nc2 ka2 kc2) (hs : cls p.1.k = cls q.1.k) (hk : p.1.k = 2)  :
    Calls Try.prog 30 #[.agg #[.int .i64 p.1.k, .int .i64 p.1.n, .int .i64 p.1.s, .string p.1.t, .slice na p.1.ns.length nc, .slice ka p.2.list.length kc], .agg #[.int .i64 q.1.k, .int .i64 q.1.n, .int .i64 q.1.s, .string q.1.t, .slice na2 q.1.ns.length nc2, .slice ka2 q.2.list.length kc2]] w fun e w' => e = .returned (.int .i64 (sg p.1.n q.1.n)) ∧ Below w.heap.size w w' := by
  obtain ⟨w1, HW1⟩ : ∃ w1, Hid (((w.alloc (.cells #[.int .i64 p.1.k, .int .i64 p.1.n, .int .i64 p.1.s, .string p.1.t, .slice na p.1.ns.length nc, .slice ka p.2.list.length kc] 25)).alloc (.cells #[.int .i64 q.1.k, .int .i64 q.1.n, .int .i64 q.1.s, .string q.1.t, .slice na2 q.1.ns.length nc2, .slice ka2 q.2.list.length kc2] 25)) = w1) := ⟨_, rfl⟩
  have b0 : Below w.heap.size w w1 := by rw [← HW1.out]; exact ((Below.refl _ _).alloc (Nat.le_refl _) _).alloc (by simp) _
  have HC : Hid (∀ W, Below w1.heap.size w1 W → Nd W w.heap.size 0 p.1 na nc ka p.2.list.length kc ∧ Nd W (w.heap.size + 1) 0 q.1 na2 nc2 ka2 q.2.list.length kc2) := fun W hb => by
    rw [← HW1.out] at hb
    have e1 : Below (w.alloc (.cells #[.int .i64 p.1.k, .int .i64 p.1.n, .int .i64 p.1.s, .string p.1.t, .slice na p.1.ns.length nc, .slice ka p.2.list.length kc] 25)).heap.size (w.alloc (.cells #[.int .i64 p.1.k, .int .i64 p.1.n, .int .i64 p.1.s, .string p.1.t, .slice na p.1.ns.length nc, .slice ka p.2.list.length kc] 25)) W := ((Below.refl _ _).alloc (Nat.le_refl _) _).trans (hb.mono (by simp))
    have g2 := box_nd hb
    have e2 : (w.alloc (.cells #[.int .i64 p.1.k, .int .i64 p.1.n, .int .i64 p.1.s, .string p.1.t, .slice na p.1.ns.length nc, .slice ka p.2.list.length kc] 25)).heap.size = w.heap.size + 1 := by simp
    rw [e2] at g2
    exact ⟨box_nd e1, g2⟩
  have v1 := hv.below b0
  have v2 := hv2.below b0
  obtain ⟨C, hC⟩ : ∃ C : World → Prop, C = fun W => Below w1.heap.size w1 W := ⟨_, rfl⟩
  have CD : Hid (∀ W, C W → C { W with drawn := W.drawn + 1 }) := fun W h => by rw [hC] at h ⊢; exact h.drew
  have CA : Hid (∀ W o, C W → C (W.alloc o)) := fun W o h => by rw [hC] at h ⊢; exact h.alloc h.size _
  have CB : Hid (∀ W W', C W → Below W.heap.size W W' → C W') := fun W W' h hb => by rw [hC] at h ⊢; exact h.trans (hb.mono h.size)
  have CE : Hid (∀ W, C W → Below w.heap.size w W) := fun W h => by rw [hC] at h; exact b0.trans (h.mono b0.size)
  have HCw : Hid (C w1) := by rw [hC]; exact Below.refl _ _
  have N1 : Hid (∀ W, C W → Nd W w.heap.size 0 p.1 na nc ka p.2.list.length kc) := fun W h => by rw [hC] at h; exact (HC.out W h).1
  have N2 : Hid (∀ W, C W → Nd W (w.heap.size + 1) 0 q.1 na2 nc2 ka2 q.2.list.length kc2) := fun W h => by rw [hC] at h; exact (HC.out W h).2
  have V1 : Hid (∀ W, C W → Vl W p na nc ka kc) := fun W h => by rw [hC] at h; exact v1.below h
  have V2 : Hid (∀ W, C W → Vl W q na2 nc2 ka2 kc2) := fun W h => by rw [hC] at h; exact v2.below h
  have hCp : ∀ p : Prop, (∀ W, C W → p) ↔ p := fun p => ⟨fun h => h _ HCw.out, fun h _ _ => h⟩
  have hkl := hwf.2.1
  have hkl2 := hwq.2.1
  have HI : Hid (OIh 30 p) := ih
  have GP : Hid (Good p) := gp
  have GQ : Hid (Good q) := gq
  have HW : Hid (WfV p) := hwf
  have HWq : Hid (WfV q) := hwq
  have k1 : Hid (∀ W, C W → Calls Try.prog 40 #[.agg #[.int .i64 p.1.k, .int .i64 p.1.n, .int .i64 p.1.s, .string p.1.t, .slice na p.1.ns.length nc, .slice ka p.2.list.length kc]] W fun e w' => e = .returned (.int .u64 (cls p.1.k)) ∧ C w') := fun W hW => (cls40 p.1 na nc ka _ kc gp.k W).mono fun e w' ⟨he, hb⟩ => ⟨he, CB.out _ _ hW hb⟩
  have k2 : Hid (∀ W, C W → Calls Try.prog 40 #[.agg #[.int .i64 q.1.k, .int .i64 q.1.n, .int .i64 q.1.s, .string q.1.t, .slice na2 q.1.ns.length nc2, .slice ka2 q.2.list.length kc2]] W fun e w' => e = .returned (.int .u64 (cls q.1.k)) ∧ C w') := fun W hW => (cls40 q.1 na2 nc2 ka2 _ kc2 gq.k W).mono fun e w' ⟨he, hb⟩ => ⟨he, CB.out _ _ hW hb⟩
  have k3 : Hid (∀ W, C W → Calls Try.prog 39 #[.int .u64 (cls p.1.k), .int .u64 (cls q.1.k)] W fun e w' => e = .returned (.int .i64 0) ∧ C w') := keep fun W => by
    have h := cmp39 (cls p.1.k) (cls q.1.k) W
    rw [hs, sg_self] at h
    rw [hs]
    exact h
  clear hs
  have t2 : (p.1.k == 2) = true := by rw [hk]; rfl
  clear hk
  clear hC HC b0 v1 v2 ih gp gq hwf hwq hv hv2
  go_enter Try.func30, Try.ntmps30
  go_wp2
  generalize hWW : World.alloc (World.alloc w _) _ = W9
  obtain rfl : w1 = W9 := by rw [← hWW, ← HW1.out]
  clear hWW HW1
  refine q_region (C := C) (by kernel_rfl) (by kernel_rfl) (CD.out _ HCw.out) ?_
  repeat (first
    | go_big_quiet_skip
    | (go_big_quiet_want
       first
       | (refine q_val (.tmp 2) rfl (w.heap.size) 0 rfl _ _ _ _ _ _ N1.out ?_
          simp only [Act.put, List.setIfInBounds_toArray, List.set_cons_zero, List.set_cons_succ]
          go_big_quiet_on)
       | (refine q_val (.tmp 3) rfl (w.heap.size + 1) 0 rfl _ _ _ _ _ _ N2.out ?_
          simp only [Act.put, List.setIfInBounds_toArray, List.set_cons_zero, List.set_cons_succ]
          go_big_quiet_on)
       | (go_big_quiet_op
          first
          | go_big_quiet_on
          | (apply Exists.intro
             refine ⟨?_, ?_⟩
             · first
               | exact k1.out
               | exact k2.out
               | exact k3.out
             go_big_quiet_on))))
  refine wpQuiet_nil ?_
  clear HCw
  intro W hW
  have HCw : Hid (C W) := hW
  clear hW
  clear k1 k2 k3
  obtain ⟨c0, c1, c2, c3, c4, c5⟩ := N1.out W HCw.out
  obtain ⟨e0, e1, e2, e3, e4, e5⟩ := N2.out W HCw.out
  simp only [Nat.zero_add] at c1 c2 c3 c4 c5 e1 e2 e3 e4 e5
  go_wp2_with (go_at_call 41; refine (cmp41 _ _ _).mono ?_; rintro e w' ⟨rfl, rfl⟩)
  go_ret
  exact ⟨rfl, CE.out _ HCw.out⟩
set_option maxRecDepth 8000 in
set_option maxHeartbeats 4000000 in
theorem vord_time (p q : Vt) (ih : OIh 30 p) (gp : Good p) (gq : Good q) (hwf : WfV p) (hwq : WfV q) (na : Option Addr) (nc : Nat) (ka : Option Addr) (kc : Nat) (na2 : Option Addr) (nc2 : Nat) (ka2 : Option Addr) (kc2 : Nat) (w : World) (hv : Vl w p na nc ka kc) (hv2 : Vl w q na2 nc2 ka2 kc2) (hs : cls p.1.k = cls q.1.k) (hk : p.1.k = 5)  :
    Calls Try.prog 30 #[.agg #[.int .i64 p.1.k, .int .i64 p.1.n, .int .i64 p.1.s, .string p.1.t, .slice na p.1.ns.length nc, .slice ka p.2.list.length kc], .agg #[.int .i64 q.1.k, .int .i64 q.1.n, .int .i64 q.1.s, .string q.1.t, .slice na2 q.1.ns.length nc2, .slice ka2 q.2.list.length kc2]] w fun e w' => e = .returned (.int .i64 (sg p.1.n q.1.n)) ∧ Below w.heap.size w w' := by
  obtain ⟨w1, HW1⟩ : ∃ w1, Hid (((w.alloc (.cells #[.int .i64 p.1.k, .int .i64 p.1.n, .int .i64 p.1.s, .string p.1.t, .slice na p.1.ns.length nc, .slice ka p.2.list.length kc] 25)).alloc (.cells #[.int .i64 q.1.k, .int .i64 q.1.n, .int .i64 q.1.s, .string q.1.t, .slice na2 q.1.ns.length nc2, .slice ka2 q.2.list.length kc2] 25)) = w1) := ⟨_, rfl⟩
  have b0 : Below w.heap.size w w1 := by rw [← HW1.out]; exact ((Below.refl _ _).alloc (Nat.le_refl _) _).alloc (by simp) _
  have HC : Hid (∀ W, Below w1.heap.size w1 W → Nd W w.heap.size 0 p.1 na nc ka p.2.list.length kc ∧ Nd W (w.heap.size + 1) 0 q.1 na2 nc2 ka2 q.2.list.length kc2) := fun W hb => by
    rw [← HW1.out] at hb
    have e1 : Below (w.alloc (.cells #[.int .i64 p.1.k, .int .i64 p.1.n, .int .i64 p.1.s, .string p.1.t, .slice na p.1.ns.length nc, .slice ka p.2.list.length kc] 25)).heap.size (w.alloc (.cells #[.int .i64 p.1.k, .int .i64 p.1.n, .int .i64 p.1.s, .string p.1.t, .slice na p.1.ns.length nc, .slice ka p.2.list.length kc] 25)) W := ((Below.refl _ _).alloc (Nat.le_refl _) _).trans (hb.mono (by simp))
    have g2 := box_nd hb
    have e2 : (w.alloc (.cells #[.int .i64 p.1.k, .int .i64 p.1.n, .int .i64 p.1.s, .string p.1.t, .slice na p.1.ns.length nc, .slice ka p.2.list.length kc] 25)).heap.size = w.heap.size + 1 := by simp
    rw [e2] at g2
    exact ⟨box_nd e1, g2⟩
  have v1 := hv.below b0
  have v2 := hv2.below b0
  obtain ⟨C, hC⟩ : ∃ C : World → Prop, C = fun W => Below w1.heap.size w1 W := ⟨_, rfl⟩
  have CD : Hid (∀ W, C W → C { W with drawn := W.drawn + 1 }) := fun W h => by rw [hC] at h ⊢; exact h.drew
  have CA : Hid (∀ W o, C W → C (W.alloc o)) := fun W o h => by rw [hC] at h ⊢; exact h.alloc h.size _
  have CB : Hid (∀ W W', C W → Below W.heap.size W W' → C W') := fun W W' h hb => by rw [hC] at h ⊢; exact h.trans (hb.mono h.size)
  have CE : Hid (∀ W, C W → Below w.heap.size w W) := fun W h => by rw [hC] at h; exact b0.trans (h.mono b0.size)
  have HCw : Hid (C w1) := by rw [hC]; exact Below.refl _ _
  have N1 : Hid (∀ W, C W → Nd W w.heap.size 0 p.1 na nc ka p.2.list.length kc) := fun W h => by rw [hC] at h; exact (HC.out W h).1
  have N2 : Hid (∀ W, C W → Nd W (w.heap.size + 1) 0 q.1 na2 nc2 ka2 q.2.list.length kc2) := fun W h => by rw [hC] at h; exact (HC.out W h).2
  have V1 : Hid (∀ W, C W → Vl W p na nc ka kc) := fun W h => by rw [hC] at h; exact v1.below h
  have V2 : Hid (∀ W, C W → Vl W q na2 nc2 ka2 kc2) := fun W h => by rw [hC] at h; exact v2.below h
  have hCp : ∀ p : Prop, (∀ W, C W → p) ↔ p := fun p => ⟨fun h => h _ HCw.out, fun h _ _ => h⟩
  have hkl := hwf.2.1
  have hkl2 := hwq.2.1
  have HI : Hid (OIh 30 p) := ih
  have GP : Hid (Good p) := gp
  have GQ : Hid (Good q) := gq
  have HW : Hid (WfV p) := hwf
  have HWq : Hid (WfV q) := hwq
  have k1 : Hid (∀ W, C W → Calls Try.prog 40 #[.agg #[.int .i64 p.1.k, .int .i64 p.1.n, .int .i64 p.1.s, .string p.1.t, .slice na p.1.ns.length nc, .slice ka p.2.list.length kc]] W fun e w' => e = .returned (.int .u64 (cls p.1.k)) ∧ C w') := fun W hW => (cls40 p.1 na nc ka _ kc gp.k W).mono fun e w' ⟨he, hb⟩ => ⟨he, CB.out _ _ hW hb⟩
  have k2 : Hid (∀ W, C W → Calls Try.prog 40 #[.agg #[.int .i64 q.1.k, .int .i64 q.1.n, .int .i64 q.1.s, .string q.1.t, .slice na2 q.1.ns.length nc2, .slice ka2 q.2.list.length kc2]] W fun e w' => e = .returned (.int .u64 (cls q.1.k)) ∧ C w') := fun W hW => (cls40 q.1 na2 nc2 ka2 _ kc2 gq.k W).mono fun e w' ⟨he, hb⟩ => ⟨he, CB.out _ _ hW hb⟩
  have k3 : Hid (∀ W, C W → Calls Try.prog 39 #[.int .u64 (cls p.1.k), .int .u64 (cls q.1.k)] W fun e w' => e = .returned (.int .i64 0) ∧ C w') := keep fun W => by
    have h := cmp39 (cls p.1.k) (cls q.1.k) W
    rw [hs, sg_self] at h
    rw [hs]
    exact h
  clear hs
  have t2 : (p.1.k == 2) = false := by rw [hk]; rfl
  have t3 : (p.1.k == 3) = false := by rw [hk]; rfl
  have t4 : (p.1.k == 4) = false := by rw [hk]; rfl
  have t5 : (p.1.k == 5) = true := by rw [hk]; rfl
  clear hk
  clear hC HC b0 v1 v2 ih gp gq hwf hwq hv hv2
  go_enter Try.func30, Try.ntmps30
  go_wp2
  generalize hWW : World.alloc (World.alloc w _) _ = W9
  obtain rfl : w1 = W9 := by rw [← hWW, ← HW1.out]
  clear hWW HW1
  refine q_region (C := C) (by kernel_rfl) (by kernel_rfl) (CD.out _ HCw.out) ?_
  repeat (first
    | go_big_quiet_skip
    | (go_big_quiet_want
       first
       | (refine q_val (.tmp 2) rfl (w.heap.size) 0 rfl _ _ _ _ _ _ N1.out ?_
          simp only [Act.put, List.setIfInBounds_toArray, List.set_cons_zero, List.set_cons_succ]
          go_big_quiet_on)
       | (refine q_val (.tmp 3) rfl (w.heap.size + 1) 0 rfl _ _ _ _ _ _ N2.out ?_
          simp only [Act.put, List.setIfInBounds_toArray, List.set_cons_zero, List.set_cons_succ]
          go_big_quiet_on)
       | (go_big_quiet_op
          first
          | go_big_quiet_on
          | (apply Exists.intro
             refine ⟨?_, ?_⟩
             · first
               | exact k1.out
               | exact k2.out
               | exact k3.out
             go_big_quiet_on))))
  refine wpQuiet_nil ?_
  clear HCw
  intro W hW
  have HCw : Hid (C W) := hW
  clear hW
  clear k1 k2 k3
  obtain ⟨c0, c1, c2, c3, c4, c5⟩ := N1.out W HCw.out
  obtain ⟨e0, e1, e2, e3, e4, e5⟩ := N2.out W HCw.out
  simp only [Nat.zero_add] at c1 c2 c3 c4 c5 e1 e2 e3 e4 e5
  go_wp2_with (go_at_call 41; refine (cmp41 _ _ _).mono ?_; rintro e w' ⟨rfl, rfl⟩)
  go_ret
  exact ⟨rfl, CE.out _ HCw.out⟩
set_option maxRecDepth 8000 in
set_option maxHeartbeats 4000000 in
theorem vord_num (p q : Vt) (ih : OIh 30 p) (gp : Good p) (gq : Good q) (hwf : WfV p) (hwq : WfV q) (na : Option Addr) (nc : Nat) (ka : Option Addr) (kc : Nat) (na2 : Option Addr) (nc2 : Nat) (ka2 : Option Addr) (kc2 : Nat) (w : World) (hv : Vl w p na nc ka kc) (hv2 : Vl w q na2 nc2 ka2 kc2) (hs : cls p.1.k = cls q.1.k) (hk : p.1.k = 3)  :
    Calls Try.prog 30 #[.agg #[.int .i64 p.1.k, .int .i64 p.1.n, .int .i64 p.1.s, .string p.1.t, .slice na p.1.ns.length nc, .slice ka p.2.list.length kc], .agg #[.int .i64 q.1.k, .int .i64 q.1.n, .int .i64 q.1.s, .string q.1.t, .slice na2 q.1.ns.length nc2, .slice ka2 q.2.list.length kc2]] w fun e w' => e = .returned (.int .i64 (nm p.1 q.1)) ∧ Below w.heap.size w w' := by
  obtain ⟨w1, HW1⟩ : ∃ w1, Hid (((w.alloc (.cells #[.int .i64 p.1.k, .int .i64 p.1.n, .int .i64 p.1.s, .string p.1.t, .slice na p.1.ns.length nc, .slice ka p.2.list.length kc] 25)).alloc (.cells #[.int .i64 q.1.k, .int .i64 q.1.n, .int .i64 q.1.s, .string q.1.t, .slice na2 q.1.ns.length nc2, .slice ka2 q.2.list.length kc2] 25)) = w1) := ⟨_, rfl⟩
  have b0 : Below w.heap.size w w1 := by rw [← HW1.out]; exact ((Below.refl _ _).alloc (Nat.le_refl _) _).alloc (by simp) _
  have HC : Hid (∀ W, Below w1.heap.size w1 W → Nd W w.heap.size 0 p.1 na nc ka p.2.list.length kc ∧ Nd W (w.heap.size + 1) 0 q.1 na2 nc2 ka2 q.2.list.length kc2) := fun W hb => by
    rw [← HW1.out] at hb
    have e1 : Below (w.alloc (.cells #[.int .i64 p.1.k, .int .i64 p.1.n, .int .i64 p.1.s, .string p.1.t, .slice na p.1.ns.length nc, .slice ka p.2.list.length kc] 25)).heap.size (w.alloc (.cells #[.int .i64 p.1.k, .int .i64 p.1.n, .int .i64 p.1.s, .string p.1.t, .slice na p.1.ns.length nc, .slice ka p.2.list.length kc] 25)) W := ((Below.refl _ _).alloc (Nat.le_refl _) _).trans (hb.mono (by simp))
    have g2 := box_nd hb
    have e2 : (w.alloc (.cells #[.int .i64 p.1.k, .int .i64 p.1.n, .int .i64 p.1.s, .string p.1.t, .slice na p.1.ns.length nc, .slice ka p.2.list.length kc] 25)).heap.size = w.heap.size + 1 := by simp
    rw [e2] at g2
    exact ⟨box_nd e1, g2⟩
  have v1 := hv.below b0
  have v2 := hv2.below b0
  obtain ⟨C, hC⟩ : ∃ C : World → Prop, C = fun W => Below w1.heap.size w1 W := ⟨_, rfl⟩
  have CD : Hid (∀ W, C W → C { W with drawn := W.drawn + 1 }) := fun W h => by rw [hC] at h ⊢; exact h.drew
  have CA : Hid (∀ W o, C W → C (W.alloc o)) := fun W o h => by rw [hC] at h ⊢; exact h.alloc h.size _
  have CB : Hid (∀ W W', C W → Below W.heap.size W W' → C W') := fun W W' h hb => by rw [hC] at h ⊢; exact h.trans (hb.mono h.size)
  have CE : Hid (∀ W, C W → Below w.heap.size w W) := fun W h => by rw [hC] at h; exact b0.trans (h.mono b0.size)
  have HCw : Hid (C w1) := by rw [hC]; exact Below.refl _ _
  have N1 : Hid (∀ W, C W → Nd W w.heap.size 0 p.1 na nc ka p.2.list.length kc) := fun W h => by rw [hC] at h; exact (HC.out W h).1
  have N2 : Hid (∀ W, C W → Nd W (w.heap.size + 1) 0 q.1 na2 nc2 ka2 q.2.list.length kc2) := fun W h => by rw [hC] at h; exact (HC.out W h).2
  have V1 : Hid (∀ W, C W → Vl W p na nc ka kc) := fun W h => by rw [hC] at h; exact v1.below h
  have V2 : Hid (∀ W, C W → Vl W q na2 nc2 ka2 kc2) := fun W h => by rw [hC] at h; exact v2.below h
  have hCp : ∀ p : Prop, (∀ W, C W → p) ↔ p := fun p => ⟨fun h => h _ HCw.out, fun h _ _ => h⟩
  have hkl := hwf.2.1
  have hkl2 := hwq.2.1
  have HI : Hid (OIh 30 p) := ih
  have GP : Hid (Good p) := gp
  have GQ : Hid (Good q) := gq
  have HW : Hid (WfV p) := hwf
  have HWq : Hid (WfV q) := hwq
  have k1 : Hid (∀ W, C W → Calls Try.prog 40 #[.agg #[.int .i64 p.1.k, .int .i64 p.1.n, .int .i64 p.1.s, .string p.1.t, .slice na p.1.ns.length nc, .slice ka p.2.list.length kc]] W fun e w' => e = .returned (.int .u64 (cls p.1.k)) ∧ C w') := fun W hW => (cls40 p.1 na nc ka _ kc gp.k W).mono fun e w' ⟨he, hb⟩ => ⟨he, CB.out _ _ hW hb⟩
  have k2 : Hid (∀ W, C W → Calls Try.prog 40 #[.agg #[.int .i64 q.1.k, .int .i64 q.1.n, .int .i64 q.1.s, .string q.1.t, .slice na2 q.1.ns.length nc2, .slice ka2 q.2.list.length kc2]] W fun e w' => e = .returned (.int .u64 (cls q.1.k)) ∧ C w') := fun W hW => (cls40 q.1 na2 nc2 ka2 _ kc2 gq.k W).mono fun e w' ⟨he, hb⟩ => ⟨he, CB.out _ _ hW hb⟩
  have k3 : Hid (∀ W, C W → Calls Try.prog 39 #[.int .u64 (cls p.1.k), .int .u64 (cls q.1.k)] W fun e w' => e = .returned (.int .i64 0) ∧ C w') := keep fun W => by
    have h := cmp39 (cls p.1.k) (cls q.1.k) W
    rw [hs, sg_self] at h
    rw [hs]
    exact h
  have hN : Hid (∀ W, C W → Calls Try.prog 42 #[.agg #[.int .i64 p.1.k, .int .i64 p.1.n, .int .i64 p.1.s, .string p.1.t, .slice na p.1.ns.length nc, .slice ka p.2.list.length kc], .agg #[.int .i64 q.1.k, .int .i64 q.1.n, .int .i64 q.1.s, .string q.1.t, .slice na2 q.1.ns.length nc2, .slice ka2 q.2.list.length kc2]] W fun e w' => e = .returned (.int .i64 (nm p.1 q.1)) ∧ C w') := fun W hW => by
    have e1 : p.1.s = (p.1.s.toNat : Int) := by have := gp.s0; omega
    have e2 : q.1.s = (q.1.s.toNat : Int) := by have := gq.s0; omega
    refine (nums_v p.1 q.1 na nc ka _ kc na2 nc2 ka2 _ kc2 hwf.1 hwq.1 p.1.s.toNat e1 (by have := gp.s1; omega) q.1.s.toNat e2 (by have := gq.s1; omega) W).mono ?_
    rintro e w' ⟨rfl, hb⟩
    exact ⟨rfl, CB.out _ _ hW hb⟩
  clear hs
  have t2 : (p.1.k == 2) = false := by rw [hk]; rfl
  have t3 : (p.1.k == 3) = true := by rw [hk]; rfl
  clear hk
  clear hC HC b0 v1 v2 ih gp gq hwf hwq hv hv2
  go_enter Try.func30, Try.ntmps30
  go_wp2
  generalize hWW : World.alloc (World.alloc w _) _ = W9
  obtain rfl : w1 = W9 := by rw [← hWW, ← HW1.out]
  clear hWW HW1
  refine q_region (C := C) (by kernel_rfl) (by kernel_rfl) (CD.out _ HCw.out) ?_
  repeat (first
    | go_big_quiet_skip
    | (go_big_quiet_want
       first
       | (refine q_val (.tmp 2) rfl (w.heap.size) 0 rfl _ _ _ _ _ _ N1.out ?_
          simp only [Act.put, List.setIfInBounds_toArray, List.set_cons_zero, List.set_cons_succ]
          go_big_quiet_on)
       | (refine q_val (.tmp 3) rfl (w.heap.size + 1) 0 rfl _ _ _ _ _ _ N2.out ?_
          simp only [Act.put, List.setIfInBounds_toArray, List.set_cons_zero, List.set_cons_succ]
          go_big_quiet_on)
       | (go_big_quiet_op
          first
          | go_big_quiet_on
          | (apply Exists.intro
             refine ⟨?_, ?_⟩
             · first
               | exact k1.out
               | exact k2.out
               | exact k3.out
             go_big_quiet_on))))
  refine wpQuiet_nil ?_
  clear HCw
  intro W hW
  have HCw : Hid (C W) := hW
  clear hW
  clear k1 k2 k3
  obtain ⟨c0, c1, c2, c3, c4, c5⟩ := N1.out W HCw.out
  obtain ⟨e0, e1, e2, e3, e4, e5⟩ := N2.out W HCw.out
  simp only [Nat.zero_add] at c1 c2 c3 c4 c5 e1 e2 e3 e4 e5
  have hk := hN.out W HCw.out
  go_wp2_with fail
  refine hk.mono ?_
  rintro e w7 ⟨rfl, hC7⟩
  have HE : Hid (Below w.heap.size w w7) := CE.out _ hC7
  clear hk hC7
  go_wp2
  go_ret
  exact ⟨rfl, HE.out⟩
set_option maxRecDepth 8000 in
set_option maxHeartbeats 4000000 in
theorem vord_dec (p q : Vt) (ih : OIh 30 p) (gp : Good p) (gq : Good q) (hwf : WfV p) (hwq : WfV q) (na : Option Addr) (nc : Nat) (ka : Option Addr) (kc : Nat) (na2 : Option Addr) (nc2 : Nat) (ka2 : Option Addr) (kc2 : Nat) (w : World) (hv : Vl w p na nc ka kc) (hv2 : Vl w q na2 nc2 ka2 kc2) (hs : cls p.1.k = cls q.1.k) (hk : p.1.k = 4)  :
    Calls Try.prog 30 #[.agg #[.int .i64 p.1.k, .int .i64 p.1.n, .int .i64 p.1.s, .string p.1.t, .slice na p.1.ns.length nc, .slice ka p.2.list.length kc], .agg #[.int .i64 q.1.k, .int .i64 q.1.n, .int .i64 q.1.s, .string q.1.t, .slice na2 q.1.ns.length nc2, .slice ka2 q.2.list.length kc2]] w fun e w' => e = .returned (.int .i64 (nm p.1 q.1)) ∧ Below w.heap.size w w' := by
  obtain ⟨w1, HW1⟩ : ∃ w1, Hid (((w.alloc (.cells #[.int .i64 p.1.k, .int .i64 p.1.n, .int .i64 p.1.s, .string p.1.t, .slice na p.1.ns.length nc, .slice ka p.2.list.length kc] 25)).alloc (.cells #[.int .i64 q.1.k, .int .i64 q.1.n, .int .i64 q.1.s, .string q.1.t, .slice na2 q.1.ns.length nc2, .slice ka2 q.2.list.length kc2] 25)) = w1) := ⟨_, rfl⟩
  have b0 : Below w.heap.size w w1 := by rw [← HW1.out]; exact ((Below.refl _ _).alloc (Nat.le_refl _) _).alloc (by simp) _
  have HC : Hid (∀ W, Below w1.heap.size w1 W → Nd W w.heap.size 0 p.1 na nc ka p.2.list.length kc ∧ Nd W (w.heap.size + 1) 0 q.1 na2 nc2 ka2 q.2.list.length kc2) := fun W hb => by
    rw [← HW1.out] at hb
    have e1 : Below (w.alloc (.cells #[.int .i64 p.1.k, .int .i64 p.1.n, .int .i64 p.1.s, .string p.1.t, .slice na p.1.ns.length nc, .slice ka p.2.list.length kc] 25)).heap.size (w.alloc (.cells #[.int .i64 p.1.k, .int .i64 p.1.n, .int .i64 p.1.s, .string p.1.t, .slice na p.1.ns.length nc, .slice ka p.2.list.length kc] 25)) W := ((Below.refl _ _).alloc (Nat.le_refl _) _).trans (hb.mono (by simp))
    have g2 := box_nd hb
    have e2 : (w.alloc (.cells #[.int .i64 p.1.k, .int .i64 p.1.n, .int .i64 p.1.s, .string p.1.t, .slice na p.1.ns.length nc, .slice ka p.2.list.length kc] 25)).heap.size = w.heap.size + 1 := by simp
    rw [e2] at g2
    exact ⟨box_nd e1, g2⟩
  have v1 := hv.below b0
  have v2 := hv2.below b0
  obtain ⟨C, hC⟩ : ∃ C : World → Prop, C = fun W => Below w1.heap.size w1 W := ⟨_, rfl⟩
  have CD : Hid (∀ W, C W → C { W with drawn := W.drawn + 1 }) := fun W h => by rw [hC] at h ⊢; exact h.drew
  have CA : Hid (∀ W o, C W → C (W.alloc o)) := fun W o h => by rw [hC] at h ⊢; exact h.alloc h.size _
  have CB : Hid (∀ W W', C W → Below W.heap.size W W' → C W') := fun W W' h hb => by rw [hC] at h ⊢; exact h.trans (hb.mono h.size)
  have CE : Hid (∀ W, C W → Below w.heap.size w W) := fun W h => by rw [hC] at h; exact b0.trans (h.mono b0.size)
  have HCw : Hid (C w1) := by rw [hC]; exact Below.refl _ _
  have N1 : Hid (∀ W, C W → Nd W w.heap.size 0 p.1 na nc ka p.2.list.length kc) := fun W h => by rw [hC] at h; exact (HC.out W h).1
  have N2 : Hid (∀ W, C W → Nd W (w.heap.size + 1) 0 q.1 na2 nc2 ka2 q.2.list.length kc2) := fun W h => by rw [hC] at h; exact (HC.out W h).2
  have V1 : Hid (∀ W, C W → Vl W p na nc ka kc) := fun W h => by rw [hC] at h; exact v1.below h
  have V2 : Hid (∀ W, C W → Vl W q na2 nc2 ka2 kc2) := fun W h => by rw [hC] at h; exact v2.below h
  have hCp : ∀ p : Prop, (∀ W, C W → p) ↔ p := fun p => ⟨fun h => h _ HCw.out, fun h _ _ => h⟩
  have hkl := hwf.2.1
  have hkl2 := hwq.2.1
  have HI : Hid (OIh 30 p) := ih
  have GP : Hid (Good p) := gp
  have GQ : Hid (Good q) := gq
  have HW : Hid (WfV p) := hwf
  have HWq : Hid (WfV q) := hwq
  have k1 : Hid (∀ W, C W → Calls Try.prog 40 #[.agg #[.int .i64 p.1.k, .int .i64 p.1.n, .int .i64 p.1.s, .string p.1.t, .slice na p.1.ns.length nc, .slice ka p.2.list.length kc]] W fun e w' => e = .returned (.int .u64 (cls p.1.k)) ∧ C w') := fun W hW => (cls40 p.1 na nc ka _ kc gp.k W).mono fun e w' ⟨he, hb⟩ => ⟨he, CB.out _ _ hW hb⟩
  have k2 : Hid (∀ W, C W → Calls Try.prog 40 #[.agg #[.int .i64 q.1.k, .int .i64 q.1.n, .int .i64 q.1.s, .string q.1.t, .slice na2 q.1.ns.length nc2, .slice ka2 q.2.list.length kc2]] W fun e w' => e = .returned (.int .u64 (cls q.1.k)) ∧ C w') := fun W hW => (cls40 q.1 na2 nc2 ka2 _ kc2 gq.k W).mono fun e w' ⟨he, hb⟩ => ⟨he, CB.out _ _ hW hb⟩
  have k3 : Hid (∀ W, C W → Calls Try.prog 39 #[.int .u64 (cls p.1.k), .int .u64 (cls q.1.k)] W fun e w' => e = .returned (.int .i64 0) ∧ C w') := keep fun W => by
    have h := cmp39 (cls p.1.k) (cls q.1.k) W
    rw [hs, sg_self] at h
    rw [hs]
    exact h
  have hN : Hid (∀ W, C W → Calls Try.prog 42 #[.agg #[.int .i64 p.1.k, .int .i64 p.1.n, .int .i64 p.1.s, .string p.1.t, .slice na p.1.ns.length nc, .slice ka p.2.list.length kc], .agg #[.int .i64 q.1.k, .int .i64 q.1.n, .int .i64 q.1.s, .string q.1.t, .slice na2 q.1.ns.length nc2, .slice ka2 q.2.list.length kc2]] W fun e w' => e = .returned (.int .i64 (nm p.1 q.1)) ∧ C w') := fun W hW => by
    have e1 : p.1.s = (p.1.s.toNat : Int) := by have := gp.s0; omega
    have e2 : q.1.s = (q.1.s.toNat : Int) := by have := gq.s0; omega
    refine (nums_v p.1 q.1 na nc ka _ kc na2 nc2 ka2 _ kc2 hwf.1 hwq.1 p.1.s.toNat e1 (by have := gp.s1; omega) q.1.s.toNat e2 (by have := gq.s1; omega) W).mono ?_
    rintro e w' ⟨rfl, hb⟩
    exact ⟨rfl, CB.out _ _ hW hb⟩
  clear hs
  have t2 : (p.1.k == 2) = false := by rw [hk]; rfl
  have t3 : (p.1.k == 3) = false := by rw [hk]; rfl
  have t4 : (p.1.k == 4) = true := by rw [hk]; rfl
  clear hk
  clear hC HC b0 v1 v2 ih gp gq hwf hwq hv hv2
  go_enter Try.func30, Try.ntmps30
  go_wp2
  generalize hWW : World.alloc (World.alloc w _) _ = W9
  obtain rfl : w1 = W9 := by rw [← hWW, ← HW1.out]
  clear hWW HW1
  refine q_region (C := C) (by kernel_rfl) (by kernel_rfl) (CD.out _ HCw.out) ?_
  repeat (first
    | go_big_quiet_skip
    | (go_big_quiet_want
       first
       | (refine q_val (.tmp 2) rfl (w.heap.size) 0 rfl _ _ _ _ _ _ N1.out ?_
          simp only [Act.put, List.setIfInBounds_toArray, List.set_cons_zero, List.set_cons_succ]
          go_big_quiet_on)
       | (refine q_val (.tmp 3) rfl (w.heap.size + 1) 0 rfl _ _ _ _ _ _ N2.out ?_
          simp only [Act.put, List.setIfInBounds_toArray, List.set_cons_zero, List.set_cons_succ]
          go_big_quiet_on)
       | (go_big_quiet_op
          first
          | go_big_quiet_on
          | (apply Exists.intro
             refine ⟨?_, ?_⟩
             · first
               | exact k1.out
               | exact k2.out
               | exact k3.out
             go_big_quiet_on))))
  refine wpQuiet_nil ?_
  clear HCw
  intro W hW
  have HCw : Hid (C W) := hW
  clear hW
  clear k1 k2 k3
  obtain ⟨c0, c1, c2, c3, c4, c5⟩ := N1.out W HCw.out
  obtain ⟨e0, e1, e2, e3, e4, e5⟩ := N2.out W HCw.out
  simp only [Nat.zero_add] at c1 c2 c3 c4 c5 e1 e2 e3 e4 e5
  have hk := hN.out W HCw.out
  go_wp2_with fail
  refine hk.mono ?_
  rintro e w7 ⟨rfl, hC7⟩
  have HE : Hid (Below w.heap.size w w7) := CE.out _ hC7
  clear hk hC7
  go_wp2
  go_ret
  exact ⟨rfl, HE.out⟩
set_option maxRecDepth 8000 in
set_option maxHeartbeats 4000000 in
theorem vord_text (p q : Vt) (ih : OIh 30 p) (gp : Good p) (gq : Good q) (hwf : WfV p) (hwq : WfV q) (na : Option Addr) (nc : Nat) (ka : Option Addr) (kc : Nat) (na2 : Option Addr) (nc2 : Nat) (ka2 : Option Addr) (kc2 : Nat) (w : World) (hv : Vl w p na nc ka kc) (hv2 : Vl w q na2 nc2 ka2 kc2) (hs : cls p.1.k = cls q.1.k) (hk : p.1.k = 6)  :
    Calls Try.prog 30 #[.agg #[.int .i64 p.1.k, .int .i64 p.1.n, .int .i64 p.1.s, .string p.1.t, .slice na p.1.ns.length nc, .slice ka p.2.list.length kc], .agg #[.int .i64 q.1.k, .int .i64 q.1.n, .int .i64 q.1.s, .string q.1.t, .slice na2 q.1.ns.length nc2, .slice ka2 q.2.list.length kc2]] w fun e w' => e = .returned (.int .i64 (tx p.1.t q.1.t)) ∧ Below w.heap.size w w' := by
  obtain ⟨w1, HW1⟩ : ∃ w1, Hid (((w.alloc (.cells #[.int .i64 p.1.k, .int .i64 p.1.n, .int .i64 p.1.s, .string p.1.t, .slice na p.1.ns.length nc, .slice ka p.2.list.length kc] 25)).alloc (.cells #[.int .i64 q.1.k, .int .i64 q.1.n, .int .i64 q.1.s, .string q.1.t, .slice na2 q.1.ns.length nc2, .slice ka2 q.2.list.length kc2] 25)) = w1) := ⟨_, rfl⟩
  have b0 : Below w.heap.size w w1 := by rw [← HW1.out]; exact ((Below.refl _ _).alloc (Nat.le_refl _) _).alloc (by simp) _
  have HC : Hid (∀ W, Below w1.heap.size w1 W → Nd W w.heap.size 0 p.1 na nc ka p.2.list.length kc ∧ Nd W (w.heap.size + 1) 0 q.1 na2 nc2 ka2 q.2.list.length kc2) := fun W hb => by
    rw [← HW1.out] at hb
    have e1 : Below (w.alloc (.cells #[.int .i64 p.1.k, .int .i64 p.1.n, .int .i64 p.1.s, .string p.1.t, .slice na p.1.ns.length nc, .slice ka p.2.list.length kc] 25)).heap.size (w.alloc (.cells #[.int .i64 p.1.k, .int .i64 p.1.n, .int .i64 p.1.s, .string p.1.t, .slice na p.1.ns.length nc, .slice ka p.2.list.length kc] 25)) W := ((Below.refl _ _).alloc (Nat.le_refl _) _).trans (hb.mono (by simp))
    have g2 := box_nd hb
    have e2 : (w.alloc (.cells #[.int .i64 p.1.k, .int .i64 p.1.n, .int .i64 p.1.s, .string p.1.t, .slice na p.1.ns.length nc, .slice ka p.2.list.length kc] 25)).heap.size = w.heap.size + 1 := by simp
    rw [e2] at g2
    exact ⟨box_nd e1, g2⟩
  have v1 := hv.below b0
  have v2 := hv2.below b0
  obtain ⟨C, hC⟩ : ∃ C : World → Prop, C = fun W => Below w1.heap.size w1 W := ⟨_, rfl⟩
  have CD : Hid (∀ W, C W → C { W with drawn := W.drawn + 1 }) := fun W h => by rw [hC] at h ⊢; exact h.drew
  have CA : Hid (∀ W o, C W → C (W.alloc o)) := fun W o h => by rw [hC] at h ⊢; exact h.alloc h.size _
  have CB : Hid (∀ W W', C W → Below W.heap.size W W' → C W') := fun W W' h hb => by rw [hC] at h ⊢; exact h.trans (hb.mono h.size)
  have CE : Hid (∀ W, C W → Below w.heap.size w W) := fun W h => by rw [hC] at h; exact b0.trans (h.mono b0.size)
  have HCw : Hid (C w1) := by rw [hC]; exact Below.refl _ _
  have N1 : Hid (∀ W, C W → Nd W w.heap.size 0 p.1 na nc ka p.2.list.length kc) := fun W h => by rw [hC] at h; exact (HC.out W h).1
  have N2 : Hid (∀ W, C W → Nd W (w.heap.size + 1) 0 q.1 na2 nc2 ka2 q.2.list.length kc2) := fun W h => by rw [hC] at h; exact (HC.out W h).2
  have V1 : Hid (∀ W, C W → Vl W p na nc ka kc) := fun W h => by rw [hC] at h; exact v1.below h
  have V2 : Hid (∀ W, C W → Vl W q na2 nc2 ka2 kc2) := fun W h => by rw [hC] at h; exact v2.below h
  have hCp : ∀ p : Prop, (∀ W, C W → p) ↔ p := fun p => ⟨fun h => h _ HCw.out, fun h _ _ => h⟩
  have hkl := hwf.2.1
  have hkl2 := hwq.2.1
  have HI : Hid (OIh 30 p) := ih
  have GP : Hid (Good p) := gp
  have GQ : Hid (Good q) := gq
  have HW : Hid (WfV p) := hwf
  have HWq : Hid (WfV q) := hwq
  have k1 : Hid (∀ W, C W → Calls Try.prog 40 #[.agg #[.int .i64 p.1.k, .int .i64 p.1.n, .int .i64 p.1.s, .string p.1.t, .slice na p.1.ns.length nc, .slice ka p.2.list.length kc]] W fun e w' => e = .returned (.int .u64 (cls p.1.k)) ∧ C w') := fun W hW => (cls40 p.1 na nc ka _ kc gp.k W).mono fun e w' ⟨he, hb⟩ => ⟨he, CB.out _ _ hW hb⟩
  have k2 : Hid (∀ W, C W → Calls Try.prog 40 #[.agg #[.int .i64 q.1.k, .int .i64 q.1.n, .int .i64 q.1.s, .string q.1.t, .slice na2 q.1.ns.length nc2, .slice ka2 q.2.list.length kc2]] W fun e w' => e = .returned (.int .u64 (cls q.1.k)) ∧ C w') := fun W hW => (cls40 q.1 na2 nc2 ka2 _ kc2 gq.k W).mono fun e w' ⟨he, hb⟩ => ⟨he, CB.out _ _ hW hb⟩
  have k3 : Hid (∀ W, C W → Calls Try.prog 39 #[.int .u64 (cls p.1.k), .int .u64 (cls q.1.k)] W fun e w' => e = .returned (.int .i64 0) ∧ C w') := keep fun W => by
    have h := cmp39 (cls p.1.k) (cls q.1.k) W
    rw [hs, sg_self] at h
    rw [hs]
    exact h
  clear hs
  have t2 : (p.1.k == 2) = false := by rw [hk]; rfl
  have t3 : (p.1.k == 3) = false := by rw [hk]; rfl
  have t4 : (p.1.k == 4) = false := by rw [hk]; rfl
  have t5 : (p.1.k == 5) = false := by rw [hk]; rfl
  have t6 : (p.1.k == 6) = true := by rw [hk]; rfl
  clear hk
  clear hC HC b0 v1 v2 ih gp gq hwf hwq hv hv2
  go_enter Try.func30, Try.ntmps30
  go_wp2
  generalize hWW : World.alloc (World.alloc w _) _ = W9
  obtain rfl : w1 = W9 := by rw [← hWW, ← HW1.out]
  clear hWW HW1
  refine q_region (C := C) (by kernel_rfl) (by kernel_rfl) (CD.out _ HCw.out) ?_
  repeat (first
    | go_big_quiet_skip
    | (go_big_quiet_want
       first
       | (refine q_val (.tmp 2) rfl (w.heap.size) 0 rfl _ _ _ _ _ _ N1.out ?_
          simp only [Act.put, List.setIfInBounds_toArray, List.set_cons_zero, List.set_cons_succ]
          go_big_quiet_on)
       | (refine q_val (.tmp 3) rfl (w.heap.size + 1) 0 rfl _ _ _ _ _ _ N2.out ?_
          simp only [Act.put, List.setIfInBounds_toArray, List.set_cons_zero, List.set_cons_succ]
          go_big_quiet_on)
       | (go_big_quiet_op
          first
          | go_big_quiet_on
          | (apply Exists.intro
             refine ⟨?_, ?_⟩
             · first
               | exact k1.out
               | exact k2.out
               | exact k3.out
             go_big_quiet_on))))
  refine wpQuiet_nil ?_
  clear HCw
  intro W hW
  have HCw : Hid (C W) := hW
  clear hW
  clear k1 k2 k3
  obtain ⟨c0, c1, c2, c3, c4, c5⟩ := N1.out W HCw.out
  obtain ⟨e0, e1, e2, e3, e4, e5⟩ := N2.out W HCw.out
  simp only [Nat.zero_add] at c1 c2 c3 c4 c5 e1 e2 e3 e4 e5
  go_wp2_with (go_at_call 43; refine (cmp43 _ _ _).mono ?_; rintro e w' ⟨rfl, rfl⟩)
  go_ret
  exact ⟨rfl, CE.out _ HCw.out⟩
set_option maxRecDepth 8000 in
set_option maxHeartbeats 4000000 in
theorem vord_blob (p q : Vt) (ih : OIh 30 p) (gp : Good p) (gq : Good q) (hwf : WfV p) (hwq : WfV q) (na : Option Addr) (nc : Nat) (ka : Option Addr) (kc : Nat) (na2 : Option Addr) (nc2 : Nat) (ka2 : Option Addr) (kc2 : Nat) (w : World) (hv : Vl w p na nc ka kc) (hv2 : Vl w q na2 nc2 ka2 kc2) (hs : cls p.1.k = cls q.1.k) (hk : p.1.k = 7)  :
    Calls Try.prog 30 #[.agg #[.int .i64 p.1.k, .int .i64 p.1.n, .int .i64 p.1.s, .string p.1.t, .slice na p.1.ns.length nc, .slice ka p.2.list.length kc], .agg #[.int .i64 q.1.k, .int .i64 q.1.n, .int .i64 q.1.s, .string q.1.t, .slice na2 q.1.ns.length nc2, .slice ka2 q.2.list.length kc2]] w fun e w' => e = .returned (.int .i64 (tx p.1.t q.1.t)) ∧ Below w.heap.size w w' := by
  obtain ⟨w1, HW1⟩ : ∃ w1, Hid (((w.alloc (.cells #[.int .i64 p.1.k, .int .i64 p.1.n, .int .i64 p.1.s, .string p.1.t, .slice na p.1.ns.length nc, .slice ka p.2.list.length kc] 25)).alloc (.cells #[.int .i64 q.1.k, .int .i64 q.1.n, .int .i64 q.1.s, .string q.1.t, .slice na2 q.1.ns.length nc2, .slice ka2 q.2.list.length kc2] 25)) = w1) := ⟨_, rfl⟩
  have b0 : Below w.heap.size w w1 := by rw [← HW1.out]; exact ((Below.refl _ _).alloc (Nat.le_refl _) _).alloc (by simp) _
  have HC : Hid (∀ W, Below w1.heap.size w1 W → Nd W w.heap.size 0 p.1 na nc ka p.2.list.length kc ∧ Nd W (w.heap.size + 1) 0 q.1 na2 nc2 ka2 q.2.list.length kc2) := fun W hb => by
    rw [← HW1.out] at hb
    have e1 : Below (w.alloc (.cells #[.int .i64 p.1.k, .int .i64 p.1.n, .int .i64 p.1.s, .string p.1.t, .slice na p.1.ns.length nc, .slice ka p.2.list.length kc] 25)).heap.size (w.alloc (.cells #[.int .i64 p.1.k, .int .i64 p.1.n, .int .i64 p.1.s, .string p.1.t, .slice na p.1.ns.length nc, .slice ka p.2.list.length kc] 25)) W := ((Below.refl _ _).alloc (Nat.le_refl _) _).trans (hb.mono (by simp))
    have g2 := box_nd hb
    have e2 : (w.alloc (.cells #[.int .i64 p.1.k, .int .i64 p.1.n, .int .i64 p.1.s, .string p.1.t, .slice na p.1.ns.length nc, .slice ka p.2.list.length kc] 25)).heap.size = w.heap.size + 1 := by simp
    rw [e2] at g2
    exact ⟨box_nd e1, g2⟩
  have v1 := hv.below b0
  have v2 := hv2.below b0
  obtain ⟨C, hC⟩ : ∃ C : World → Prop, C = fun W => Below w1.heap.size w1 W := ⟨_, rfl⟩
  have CD : Hid (∀ W, C W → C { W with drawn := W.drawn + 1 }) := fun W h => by rw [hC] at h ⊢; exact h.drew
  have CA : Hid (∀ W o, C W → C (W.alloc o)) := fun W o h => by rw [hC] at h ⊢; exact h.alloc h.size _
  have CB : Hid (∀ W W', C W → Below W.heap.size W W' → C W') := fun W W' h hb => by rw [hC] at h ⊢; exact h.trans (hb.mono h.size)
  have CE : Hid (∀ W, C W → Below w.heap.size w W) := fun W h => by rw [hC] at h; exact b0.trans (h.mono b0.size)
  have HCw : Hid (C w1) := by rw [hC]; exact Below.refl _ _
  have N1 : Hid (∀ W, C W → Nd W w.heap.size 0 p.1 na nc ka p.2.list.length kc) := fun W h => by rw [hC] at h; exact (HC.out W h).1
  have N2 : Hid (∀ W, C W → Nd W (w.heap.size + 1) 0 q.1 na2 nc2 ka2 q.2.list.length kc2) := fun W h => by rw [hC] at h; exact (HC.out W h).2
  have V1 : Hid (∀ W, C W → Vl W p na nc ka kc) := fun W h => by rw [hC] at h; exact v1.below h
  have V2 : Hid (∀ W, C W → Vl W q na2 nc2 ka2 kc2) := fun W h => by rw [hC] at h; exact v2.below h
  have hCp : ∀ p : Prop, (∀ W, C W → p) ↔ p := fun p => ⟨fun h => h _ HCw.out, fun h _ _ => h⟩
  have hkl := hwf.2.1
  have hkl2 := hwq.2.1
  have HI : Hid (OIh 30 p) := ih
  have GP : Hid (Good p) := gp
  have GQ : Hid (Good q) := gq
  have HW : Hid (WfV p) := hwf
  have HWq : Hid (WfV q) := hwq
  have k1 : Hid (∀ W, C W → Calls Try.prog 40 #[.agg #[.int .i64 p.1.k, .int .i64 p.1.n, .int .i64 p.1.s, .string p.1.t, .slice na p.1.ns.length nc, .slice ka p.2.list.length kc]] W fun e w' => e = .returned (.int .u64 (cls p.1.k)) ∧ C w') := fun W hW => (cls40 p.1 na nc ka _ kc gp.k W).mono fun e w' ⟨he, hb⟩ => ⟨he, CB.out _ _ hW hb⟩
  have k2 : Hid (∀ W, C W → Calls Try.prog 40 #[.agg #[.int .i64 q.1.k, .int .i64 q.1.n, .int .i64 q.1.s, .string q.1.t, .slice na2 q.1.ns.length nc2, .slice ka2 q.2.list.length kc2]] W fun e w' => e = .returned (.int .u64 (cls q.1.k)) ∧ C w') := fun W hW => (cls40 q.1 na2 nc2 ka2 _ kc2 gq.k W).mono fun e w' ⟨he, hb⟩ => ⟨he, CB.out _ _ hW hb⟩
  have k3 : Hid (∀ W, C W → Calls Try.prog 39 #[.int .u64 (cls p.1.k), .int .u64 (cls q.1.k)] W fun e w' => e = .returned (.int .i64 0) ∧ C w') := keep fun W => by
    have h := cmp39 (cls p.1.k) (cls q.1.k) W
    rw [hs, sg_self] at h
    rw [hs]
    exact h
  clear hs
  have t2 : (p.1.k == 2) = false := by rw [hk]; rfl
  have t3 : (p.1.k == 3) = false := by rw [hk]; rfl
  have t4 : (p.1.k == 4) = false := by rw [hk]; rfl
  have t5 : (p.1.k == 5) = false := by rw [hk]; rfl
  have t6 : (p.1.k == 6) = false := by rw [hk]; rfl
  have t7 : (p.1.k == 7) = true := by rw [hk]; rfl
  clear hk
  clear hC HC b0 v1 v2 ih gp gq hwf hwq hv hv2
  go_enter Try.func30, Try.ntmps30
  go_wp2
  generalize hWW : World.alloc (World.alloc w _) _ = W9
  obtain rfl : w1 = W9 := by rw [← hWW, ← HW1.out]
  clear hWW HW1
  refine q_region (C := C) (by kernel_rfl) (by kernel_rfl) (CD.out _ HCw.out) ?_
  repeat (first
    | go_big_quiet_skip
    | (go_big_quiet_want
       first
       | (refine q_val (.tmp 2) rfl (w.heap.size) 0 rfl _ _ _ _ _ _ N1.out ?_
          simp only [Act.put, List.setIfInBounds_toArray, List.set_cons_zero, List.set_cons_succ]
          go_big_quiet_on)
       | (refine q_val (.tmp 3) rfl (w.heap.size + 1) 0 rfl _ _ _ _ _ _ N2.out ?_
          simp only [Act.put, List.setIfInBounds_toArray, List.set_cons_zero, List.set_cons_succ]
          go_big_quiet_on)
       | (go_big_quiet_op
          first
          | go_big_quiet_on
          | (apply Exists.intro
             refine ⟨?_, ?_⟩
             · first
               | exact k1.out
               | exact k2.out
               | exact k3.out
             go_big_quiet_on))))
  refine wpQuiet_nil ?_
  clear HCw
  intro W hW
  have HCw : Hid (C W) := hW
  clear hW
  clear k1 k2 k3
  obtain ⟨c0, c1, c2, c3, c4, c5⟩ := N1.out W HCw.out
  obtain ⟨e0, e1, e2, e3, e4, e5⟩ := N2.out W HCw.out
  simp only [Nat.zero_add] at c1 c2 c3 c4 c5 e1 e2 e3 e4 e5
  go_wp2_with (go_at_call 43; refine (cmp43 _ _ _).mono ?_; rintro e w' ⟨rfl, rfl⟩)
  go_ret
  exact ⟨rfl, CE.out _ HCw.out⟩
set_option maxRecDepth 8000 in
set_option maxHeartbeats 4000000 in
theorem vord_list (p q : Vt) (ih : OIh 30 p) (gp : Good p) (gq : Good q) (hwf : WfV p) (hwq : WfV q) (na : Option Addr) (nc : Nat) (ka : Option Addr) (kc : Nat) (na2 : Option Addr) (nc2 : Nat) (ka2 : Option Addr) (kc2 : Nat) (w : World) (hv : Vl w p na nc ka kc) (hv2 : Vl w q na2 nc2 ka2 kc2) (hs : cls p.1.k = cls q.1.k) (hk : p.1.k = 8) (R : Int) (hR : R = cmpF (p.2.drop 0) false [] (q.2.drop 0) []) :
    Calls Try.prog 30 #[.agg #[.int .i64 p.1.k, .int .i64 p.1.n, .int .i64 p.1.s, .string p.1.t, .slice na p.1.ns.length nc, .slice ka p.2.list.length kc], .agg #[.int .i64 q.1.k, .int .i64 q.1.n, .int .i64 q.1.s, .string q.1.t, .slice na2 q.1.ns.length nc2, .slice ka2 q.2.list.length kc2]] w fun e w' => e = .returned (.int .i64 (R)) ∧ Below w.heap.size w w' := by
  obtain ⟨w1, HW1⟩ : ∃ w1, Hid (((w.alloc (.cells #[.int .i64 p.1.k, .int .i64 p.1.n, .int .i64 p.1.s, .string p.1.t, .slice na p.1.ns.length nc, .slice ka p.2.list.length kc] 25)).alloc (.cells #[.int .i64 q.1.k, .int .i64 q.1.n, .int .i64 q.1.s, .string q.1.t, .slice na2 q.1.ns.length nc2, .slice ka2 q.2.list.length kc2] 25)) = w1) := ⟨_, rfl⟩
  have b0 : Below w.heap.size w w1 := by rw [← HW1.out]; exact ((Below.refl _ _).alloc (Nat.le_refl _) _).alloc (by simp) _
  have HC : Hid (∀ W, Below w1.heap.size w1 W → Nd W w.heap.size 0 p.1 na nc ka p.2.list.length kc ∧ Nd W (w.heap.size + 1) 0 q.1 na2 nc2 ka2 q.2.list.length kc2) := fun W hb => by
    rw [← HW1.out] at hb
    have e1 : Below (w.alloc (.cells #[.int .i64 p.1.k, .int .i64 p.1.n, .int .i64 p.1.s, .string p.1.t, .slice na p.1.ns.length nc, .slice ka p.2.list.length kc] 25)).heap.size (w.alloc (.cells #[.int .i64 p.1.k, .int .i64 p.1.n, .int .i64 p.1.s, .string p.1.t, .slice na p.1.ns.length nc, .slice ka p.2.list.length kc] 25)) W := ((Below.refl _ _).alloc (Nat.le_refl _) _).trans (hb.mono (by simp))
    have g2 := box_nd hb
    have e2 : (w.alloc (.cells #[.int .i64 p.1.k, .int .i64 p.1.n, .int .i64 p.1.s, .string p.1.t, .slice na p.1.ns.length nc, .slice ka p.2.list.length kc] 25)).heap.size = w.heap.size + 1 := by simp
    rw [e2] at g2
    exact ⟨box_nd e1, g2⟩
  have v1 := hv.below b0
  have v2 := hv2.below b0
  obtain ⟨C, hC⟩ : ∃ C : World → Prop, C = fun W => Below w1.heap.size w1 W := ⟨_, rfl⟩
  have CD : Hid (∀ W, C W → C { W with drawn := W.drawn + 1 }) := fun W h => by rw [hC] at h ⊢; exact h.drew
  have CA : Hid (∀ W o, C W → C (W.alloc o)) := fun W o h => by rw [hC] at h ⊢; exact h.alloc h.size _
  have CB : Hid (∀ W W', C W → Below W.heap.size W W' → C W') := fun W W' h hb => by rw [hC] at h ⊢; exact h.trans (hb.mono h.size)
  have CE : Hid (∀ W, C W → Below w.heap.size w W) := fun W h => by rw [hC] at h; exact b0.trans (h.mono b0.size)
  have HCw : Hid (C w1) := by rw [hC]; exact Below.refl _ _
  have N1 : Hid (∀ W, C W → Nd W w.heap.size 0 p.1 na nc ka p.2.list.length kc) := fun W h => by rw [hC] at h; exact (HC.out W h).1
  have N2 : Hid (∀ W, C W → Nd W (w.heap.size + 1) 0 q.1 na2 nc2 ka2 q.2.list.length kc2) := fun W h => by rw [hC] at h; exact (HC.out W h).2
  have V1 : Hid (∀ W, C W → Vl W p na nc ka kc) := fun W h => by rw [hC] at h; exact v1.below h
  have V2 : Hid (∀ W, C W → Vl W q na2 nc2 ka2 kc2) := fun W h => by rw [hC] at h; exact v2.below h
  have hCp : ∀ p : Prop, (∀ W, C W → p) ↔ p := fun p => ⟨fun h => h _ HCw.out, fun h _ _ => h⟩
  have hkl := hwf.2.1
  have hkl2 := hwq.2.1
  have HI : Hid (OIh 30 p) := ih
  have GP : Hid (Good p) := gp
  have GQ : Hid (Good q) := gq
  have HW : Hid (WfV p) := hwf
  have HWq : Hid (WfV q) := hwq
  have k1 : Hid (∀ W, C W → Calls Try.prog 40 #[.agg #[.int .i64 p.1.k, .int .i64 p.1.n, .int .i64 p.1.s, .string p.1.t, .slice na p.1.ns.length nc, .slice ka p.2.list.length kc]] W fun e w' => e = .returned (.int .u64 (cls p.1.k)) ∧ C w') := fun W hW => (cls40 p.1 na nc ka _ kc gp.k W).mono fun e w' ⟨he, hb⟩ => ⟨he, CB.out _ _ hW hb⟩
  have k2 : Hid (∀ W, C W → Calls Try.prog 40 #[.agg #[.int .i64 q.1.k, .int .i64 q.1.n, .int .i64 q.1.s, .string q.1.t, .slice na2 q.1.ns.length nc2, .slice ka2 q.2.list.length kc2]] W fun e w' => e = .returned (.int .u64 (cls q.1.k)) ∧ C w') := fun W hW => (cls40 q.1 na2 nc2 ka2 _ kc2 gq.k W).mono fun e w' ⟨he, hb⟩ => ⟨he, CB.out _ _ hW hb⟩
  have k3 : Hid (∀ W, C W → Calls Try.prog 39 #[.int .u64 (cls p.1.k), .int .u64 (cls q.1.k)] W fun e w' => e = .returned (.int .i64 0) ∧ C w') := keep fun W => by
    have h := cmp39 (cls p.1.k) (cls q.1.k) W
    rw [hs, sg_self] at h
    rw [hs]
    exact h
  have hN : Hid (∀ W, C W → Calls Try.prog 44 #[.slice ka p.2.list.length kc, .slice ka2 q.2.list.length kc2, .func (.func 30) #[] #[]] W fun e w' => e = .returned (.int .i64 R) ∧ C w') := fun W hW => (vlists p q ih gp gq hwf hwq na nc ka kc na2 nc2 ka2 kc2 W (V1.out W hW) (V2.out W hW) R hR).mono fun e w' ⟨he, hb⟩ => ⟨he, CB.out _ _ hW hb⟩
  clear hR
  clear hs
  have t2 : (p.1.k == 2) = false := by rw [hk]; rfl
  have t3 : (p.1.k == 3) = false := by rw [hk]; rfl
  have t4 : (p.1.k == 4) = false := by rw [hk]; rfl
  have t5 : (p.1.k == 5) = false := by rw [hk]; rfl
  have t6 : (p.1.k == 6) = false := by rw [hk]; rfl
  have t7 : (p.1.k == 7) = false := by rw [hk]; rfl
  have t8 : (p.1.k == 8) = true := by rw [hk]; rfl
  clear hk
  clear hC HC b0 v1 v2 ih gp gq hwf hwq hv hv2
  go_enter Try.func30, Try.ntmps30
  go_wp2
  generalize hWW : World.alloc (World.alloc w _) _ = W9
  obtain rfl : w1 = W9 := by rw [← hWW, ← HW1.out]
  clear hWW HW1
  refine q_region (C := C) (by kernel_rfl) (by kernel_rfl) (CD.out _ HCw.out) ?_
  repeat (first
    | go_big_quiet_skip
    | (go_big_quiet_want
       first
       | (refine q_val (.tmp 2) rfl (w.heap.size) 0 rfl _ _ _ _ _ _ N1.out ?_
          simp only [Act.put, List.setIfInBounds_toArray, List.set_cons_zero, List.set_cons_succ]
          go_big_quiet_on)
       | (refine q_val (.tmp 3) rfl (w.heap.size + 1) 0 rfl _ _ _ _ _ _ N2.out ?_
          simp only [Act.put, List.setIfInBounds_toArray, List.set_cons_zero, List.set_cons_succ]
          go_big_quiet_on)
       | (go_big_quiet_op
          first
          | go_big_quiet_on
          | (apply Exists.intro
             refine ⟨?_, ?_⟩
             · first
               | exact k1.out
               | exact k2.out
               | exact k3.out
             go_big_quiet_on))))
  refine wpQuiet_nil ?_
  clear HCw
  intro W hW
  have HCw : Hid (C W) := hW
  clear hW
  clear k1 k2 k3
  obtain ⟨c0, c1, c2, c3, c4, c5⟩ := N1.out W HCw.out
  obtain ⟨e0, e1, e2, e3, e4, e5⟩ := N2.out W HCw.out
  simp only [Nat.zero_add] at c1 c2 c3 c4 c5 e1 e2 e3 e4 e5
  have hk := hN.out W HCw.out
  go_wp2_with fail
  refine hk.mono ?_
  rintro e w7 ⟨rfl, hC7⟩
  have HE : Hid (Below w.heap.size w w7) := CE.out _ hC7
  clear hk hC7
  go_wp2
  go_ret
  exact ⟨rfl, HE.out⟩
set_option maxRecDepth 8000 in
set_option maxHeartbeats 4000000 in
theorem vord_struct (p q : Vt) (ih : OIh 30 p) (gp : Good p) (gq : Good q) (hwf : WfV p) (hwq : WfV q) (na : Option Addr) (nc : Nat) (ka : Option Addr) (kc : Nat) (na2 : Option Addr) (nc2 : Nat) (ka2 : Option Addr) (kc2 : Nat) (w : World) (hv : Vl w p na nc ka kc) (hv2 : Vl w q na2 nc2 ka2 kc2) (hs : cls p.1.k = cls q.1.k) (hk : p.1.k = 9) (R : Int) (h9 : p.1.k = 9 ∧ q.1.k = 9) (hR : R = cmpF (p.2.drop 0) true (p.1.ns.drop 0) (q.2.drop 0) (q.1.ns.drop 0)) :
    Calls Try.prog 30 #[.agg #[.int .i64 p.1.k, .int .i64 p.1.n, .int .i64 p.1.s, .string p.1.t, .slice na p.1.ns.length nc, .slice ka p.2.list.length kc], .agg #[.int .i64 q.1.k, .int .i64 q.1.n, .int .i64 q.1.s, .string q.1.t, .slice na2 q.1.ns.length nc2, .slice ka2 q.2.list.length kc2]] w fun e w' => e = .returned (.int .i64 (R)) ∧ Below w.heap.size w w' := by
  obtain ⟨w1, HW1⟩ : ∃ w1, Hid (((w.alloc (.cells #[.int .i64 p.1.k, .int .i64 p.1.n, .int .i64 p.1.s, .string p.1.t, .slice na p.1.ns.length nc, .slice ka p.2.list.length kc] 25)).alloc (.cells #[.int .i64 q.1.k, .int .i64 q.1.n, .int .i64 q.1.s, .string q.1.t, .slice na2 q.1.ns.length nc2, .slice ka2 q.2.list.length kc2] 25)) = w1) := ⟨_, rfl⟩
  have b0 : Below w.heap.size w w1 := by rw [← HW1.out]; exact ((Below.refl _ _).alloc (Nat.le_refl _) _).alloc (by simp) _
  have HC : Hid (∀ W, Below w1.heap.size w1 W → Nd W w.heap.size 0 p.1 na nc ka p.2.list.length kc ∧ Nd W (w.heap.size + 1) 0 q.1 na2 nc2 ka2 q.2.list.length kc2) := fun W hb => by
    rw [← HW1.out] at hb
    have e1 : Below (w.alloc (.cells #[.int .i64 p.1.k, .int .i64 p.1.n, .int .i64 p.1.s, .string p.1.t, .slice na p.1.ns.length nc, .slice ka p.2.list.length kc] 25)).heap.size (w.alloc (.cells #[.int .i64 p.1.k, .int .i64 p.1.n, .int .i64 p.1.s, .string p.1.t, .slice na p.1.ns.length nc, .slice ka p.2.list.length kc] 25)) W := ((Below.refl _ _).alloc (Nat.le_refl _) _).trans (hb.mono (by simp))
    have g2 := box_nd hb
    have e2 : (w.alloc (.cells #[.int .i64 p.1.k, .int .i64 p.1.n, .int .i64 p.1.s, .string p.1.t, .slice na p.1.ns.length nc, .slice ka p.2.list.length kc] 25)).heap.size = w.heap.size + 1 := by simp
    rw [e2] at g2
    exact ⟨box_nd e1, g2⟩
  have v1 := hv.below b0
  have v2 := hv2.below b0
  obtain ⟨C, hC⟩ : ∃ C : World → Prop, C = fun W => Below w1.heap.size w1 W := ⟨_, rfl⟩
  have CD : Hid (∀ W, C W → C { W with drawn := W.drawn + 1 }) := fun W h => by rw [hC] at h ⊢; exact h.drew
  have CA : Hid (∀ W o, C W → C (W.alloc o)) := fun W o h => by rw [hC] at h ⊢; exact h.alloc h.size _
  have CB : Hid (∀ W W', C W → Below W.heap.size W W' → C W') := fun W W' h hb => by rw [hC] at h ⊢; exact h.trans (hb.mono h.size)
  have CE : Hid (∀ W, C W → Below w.heap.size w W) := fun W h => by rw [hC] at h; exact b0.trans (h.mono b0.size)
  have HCw : Hid (C w1) := by rw [hC]; exact Below.refl _ _
  have N1 : Hid (∀ W, C W → Nd W w.heap.size 0 p.1 na nc ka p.2.list.length kc) := fun W h => by rw [hC] at h; exact (HC.out W h).1
  have N2 : Hid (∀ W, C W → Nd W (w.heap.size + 1) 0 q.1 na2 nc2 ka2 q.2.list.length kc2) := fun W h => by rw [hC] at h; exact (HC.out W h).2
  have V1 : Hid (∀ W, C W → Vl W p na nc ka kc) := fun W h => by rw [hC] at h; exact v1.below h
  have V2 : Hid (∀ W, C W → Vl W q na2 nc2 ka2 kc2) := fun W h => by rw [hC] at h; exact v2.below h
  have hCp : ∀ p : Prop, (∀ W, C W → p) ↔ p := fun p => ⟨fun h => h _ HCw.out, fun h _ _ => h⟩
  have hkl := hwf.2.1
  have hkl2 := hwq.2.1
  have HI : Hid (OIh 30 p) := ih
  have GP : Hid (Good p) := gp
  have GQ : Hid (Good q) := gq
  have HW : Hid (WfV p) := hwf
  have HWq : Hid (WfV q) := hwq
  have k1 : Hid (∀ W, C W → Calls Try.prog 40 #[.agg #[.int .i64 p.1.k, .int .i64 p.1.n, .int .i64 p.1.s, .string p.1.t, .slice na p.1.ns.length nc, .slice ka p.2.list.length kc]] W fun e w' => e = .returned (.int .u64 (cls p.1.k)) ∧ C w') := fun W hW => (cls40 p.1 na nc ka _ kc gp.k W).mono fun e w' ⟨he, hb⟩ => ⟨he, CB.out _ _ hW hb⟩
  have k2 : Hid (∀ W, C W → Calls Try.prog 40 #[.agg #[.int .i64 q.1.k, .int .i64 q.1.n, .int .i64 q.1.s, .string q.1.t, .slice na2 q.1.ns.length nc2, .slice ka2 q.2.list.length kc2]] W fun e w' => e = .returned (.int .u64 (cls q.1.k)) ∧ C w') := fun W hW => (cls40 q.1 na2 nc2 ka2 _ kc2 gq.k W).mono fun e w' ⟨he, hb⟩ => ⟨he, CB.out _ _ hW hb⟩
  have k3 : Hid (∀ W, C W → Calls Try.prog 39 #[.int .u64 (cls p.1.k), .int .u64 (cls q.1.k)] W fun e w' => e = .returned (.int .i64 0) ∧ C w') := keep fun W => by
    have h := cmp39 (cls p.1.k) (cls q.1.k) W
    rw [hs, sg_self] at h
    rw [hs]
    exact h
  have hN : Hid (∀ W, C W → Calls Try.prog 45 #[.agg #[.int .i64 p.1.k, .int .i64 p.1.n, .int .i64 p.1.s, .string p.1.t, .slice na p.1.ns.length nc, .slice ka p.2.list.length kc], .agg #[.int .i64 q.1.k, .int .i64 q.1.n, .int .i64 q.1.s, .string q.1.t, .slice na2 q.1.ns.length nc2, .slice ka2 q.2.list.length kc2]] W fun e w' => e = .returned (.int .i64 R) ∧ C w') := fun W hW => (vstructs p q ih gp gq hwf hwq na nc ka kc na2 nc2 ka2 kc2 W (V1.out W hW) (V2.out W hW) p.1.ns q.1.ns R h9 ⟨rfl, rfl⟩ hR).mono fun e w' ⟨he, hb⟩ => ⟨he, CB.out _ _ hW hb⟩
  clear hR h9
  clear hs
  have t2 : (p.1.k == 2) = false := by rw [hk]; rfl
  have t3 : (p.1.k == 3) = false := by rw [hk]; rfl
  have t4 : (p.1.k == 4) = false := by rw [hk]; rfl
  have t5 : (p.1.k == 5) = false := by rw [hk]; rfl
  have t6 : (p.1.k == 6) = false := by rw [hk]; rfl
  have t7 : (p.1.k == 7) = false := by rw [hk]; rfl
  have t8 : (p.1.k == 8) = false := by rw [hk]; rfl
  have t9 : (p.1.k == 9) = true := by rw [hk]; rfl
  clear hk
  clear hC HC b0 v1 v2 ih gp gq hwf hwq hv hv2
  go_enter Try.func30, Try.ntmps30
  go_wp2
  generalize hWW : World.alloc (World.alloc w _) _ = W9
  obtain rfl : w1 = W9 := by rw [← hWW, ← HW1.out]
  clear hWW HW1
  refine q_region (C := C) (by kernel_rfl) (by kernel_rfl) (CD.out _ HCw.out) ?_
  repeat (first
    | go_big_quiet_skip
    | (go_big_quiet_want
       first
       | (refine q_val (.tmp 2) rfl (w.heap.size) 0 rfl _ _ _ _ _ _ N1.out ?_
          simp only [Act.put, List.setIfInBounds_toArray, List.set_cons_zero, List.set_cons_succ]
          go_big_quiet_on)
       | (refine q_val (.tmp 3) rfl (w.heap.size + 1) 0 rfl _ _ _ _ _ _ N2.out ?_
          simp only [Act.put, List.setIfInBounds_toArray, List.set_cons_zero, List.set_cons_succ]
          go_big_quiet_on)
       | (go_big_quiet_op
          first
          | go_big_quiet_on
          | (apply Exists.intro
             refine ⟨?_, ?_⟩
             · first
               | exact k1.out
               | exact k2.out
               | exact k3.out
             go_big_quiet_on))))
  refine wpQuiet_nil ?_
  clear HCw
  intro W hW
  have HCw : Hid (C W) := hW
  clear hW
  clear k1 k2 k3
  obtain ⟨c0, c1, c2, c3, c4, c5⟩ := N1.out W HCw.out
  obtain ⟨e0, e1, e2, e3, e4, e5⟩ := N2.out W HCw.out
  simp only [Nat.zero_add] at c1 c2 c3 c4 c5 e1 e2 e3 e4 e5
  have hk := hN.out W HCw.out
  go_wp2_with fail
  refine hk.mono ?_
  rintro e w7 ⟨rfl, hC7⟩
  have HE : Hid (Below w.heap.size w w7) := CE.out _ hC7
  clear hk hC7
  go_wp2
  go_ret
  exact ⟨rfl, HE.out⟩
theorem vorder_any : ∀ (N : Nat) (p : Vt), wt p ≤ N → Good p → WfV p → ∀ q : Vt, Good q → WfV q → ∀ (na : Option Addr) (nc : Nat) (ka : Option Addr) (kc : Nat) (na2 : Option Addr) (nc2 : Nat) (ka2 : Option Addr) (kc2 : Nat) (W : World), Vl W p na nc ka kc → Vl W q na2 nc2 ka2 kc2 →
    Calls Try.prog 30 #[.agg #[.int .i64 p.1.k, .int .i64 p.1.n, .int .i64 p.1.s, .string p.1.t, .slice na p.1.ns.length nc, .slice ka p.2.list.length kc], .agg #[.int .i64 q.1.k, .int .i64 q.1.n, .int .i64 q.1.s, .string q.1.t, .slice na2 q.1.ns.length nc2, .slice ka2 q.2.list.length kc2]] W
      fun e w' => e = .returned (.int .i64 (ordV p q)) ∧ Below W.heap.size W w' := by
  intro N
  induction N with
  | zero => intro p hp; exfalso; unfold wt at hp; omega
  | succ N ih =>
    intro p hp gp hwf q gq hwq na nc ka kc na2 nc2 ka2 kc2 W hv hv2
    have hI : OIh 30 p := fun p' hp' gp' hwp' q' gq' hwq' na nc ka kc na2 nc2 ka2 kc2 W h1 h2 => ih p' (by omega) gp' hwp' q' gq' hwq' na nc ka kc na2 nc2 ka2 kc2 W h1 h2
    have kp := gp.k
    have kq := gq.k
    by_cases hs : cls p.1.k = cls q.1.k
    case neg =>
      have e : sg (cls p.1.k) (cls q.1.k) = ordV p q := by rw [ordV, if_pos hs]
      rw [← e]
      exact vord_diff p q hI gp gq hwf hwq na nc ka kc na2 nc2 ka2 kc2 W hv hv2 hs
    have hc : ¬ cls p.1.k ≠ cls q.1.k := fun h => h hs
    rcases kp with c | c | c | c | c | c | c | c | c
    · have e : ordV p q = 0 := by rw [ordV, if_neg hc, if_neg (by omega), if_neg (by omega), if_neg (by omega), if_neg (by omega), if_neg (by omega)]
      rw [e]
      exact vord_null p q hI gp gq hwf hwq na nc ka kc na2 nc2 ka2 kc2 W hv hv2 hs c
    · have e : sg p.1.n q.1.n = ordV p q := by rw [ordV, if_neg hc, if_pos (by omega)]
      rw [← e]
      exact vord_bool p q hI gp gq hwf hwq na nc ka kc na2 nc2 ka2 kc2 W hv hv2 hs c
    · have e : nm p.1 q.1 = ordV p q := by rw [ordV, if_neg hc, if_neg (by omega), if_pos (by omega)]
      rw [← e]
      exact vord_num p q hI gp gq hwf hwq na nc ka kc na2 nc2 ka2 kc2 W hv hv2 hs c
    · have e : nm p.1 q.1 = ordV p q := by rw [ordV, if_neg hc, if_neg (by omega), if_pos (by omega)]
      rw [← e]
      exact vord_dec p q hI gp gq hwf hwq na nc ka kc na2 nc2 ka2 kc2 W hv hv2 hs c
    · have e : sg p.1.n q.1.n = ordV p q := by rw [ordV, if_neg hc, if_pos (by omega)]
      rw [← e]
      exact vord_time p q hI gp gq hwf hwq na nc ka kc na2 nc2 ka2 kc2 W hv hv2 hs c
    · have e : tx p.1.t q.1.t = ordV p q := by rw [ordV, if_neg hc, if_neg (by omega), if_neg (by omega), if_pos (by omega)]
      rw [← e]
      exact vord_text p q hI gp gq hwf hwq na nc ka kc na2 nc2 ka2 kc2 W hv hv2 hs c
    · have e : tx p.1.t q.1.t = ordV p q := by rw [ordV, if_neg hc, if_neg (by omega), if_neg (by omega), if_pos (by omega)]
      rw [← e]
      exact vord_blob p q hI gp gq hwf hwq na nc ka kc na2 nc2 ka2 kc2 W hv hv2 hs c
    · have e : ordV p q = cmpF p.2 false [] q.2 [] := by rw [ordV, if_neg hc, if_neg (by omega), if_neg (by omega), if_neg (by omega), if_pos c]
      exact vord_list p q hI gp gq hwf hwq na nc ka kc na2 nc2 ka2 kc2 W hv hv2 hs c (ordV p q) (by simpa [Fo.drop] using e)
    · have e : ordV p q = cmpF p.2 true p.1.ns q.2 q.1.ns := by rw [ordV, if_neg hc, if_neg (by omega), if_neg (by omega), if_neg (by omega), if_neg (by omega), if_pos c]
      have c9 : q.1.k = 9 := by simp only [cls] at hs; (repeat' split at hs) <;> omega
      exact vord_struct p q hI gp gq hwf hwq na nc ka kc na2 nc2 ka2 kc2 W hv hv2 hs c (ordV p q) ⟨c, c9⟩ (by simpa [Fo.drop] using e)
#print axioms vorder_any
end Go.Proofs.Ytiddlpjnfophhaa
