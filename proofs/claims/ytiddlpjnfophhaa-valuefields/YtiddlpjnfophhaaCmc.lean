/-
  value.Compare and value.Same, and the document's own.
-/
import Derived.Test.YtiddlpjnfophhaaCm3
import Derived.Test.YtiddlpjnfophhaaMtz
namespace Go.Proofs.Ytiddlpjnfophhaa
open Go.RowKit
set_option linter.unusedVariables false
/-- The order of any two. -/
def cmpC (p q : Vt) : Int := if chkV p 1 = 0 ∧ chkV q 1 = 0 then ordV p q else 0
/-- Whether any two are one value. -/
def samC (p q : Vt) : Bool := (chkV p 1 == 0) && ((chkV q 1 == 0) && (ordV p q == 0))
theorem bool_ite (c : Prop) [Decidable c] : (if c then Value.bool true else Value.bool false) = .bool (decide c) := by by_cases h : c <;> simp [h]
theorem ret_bool {a b : Bool} (h : a = b) : Ending.returned (.bool a) = .returned (.bool b) := by rw [h]
set_option maxRecDepth 8000 in
set_option maxHeartbeats 4000000 in
theorem vCompare (p q : Vt) (hwf : WfV p) (hwq : WfV q) (na : Option Addr) (nc : Nat) (ka : Option Addr) (kc : Nat) (na2 : Option Addr) (nc2 : Nat) (ka2 : Option Addr) (kc2 : Nat) (w : World) (hv : Vl w p na nc ka kc) (hv2 : Vl w q na2 nc2 ka2 kc2) :
    Calls Try.prog 15 #[.agg #[.int .i64 p.1.k, .int .i64 p.1.n, .int .i64 p.1.s, .string p.1.t, .slice na p.1.ns.length nc, .slice ka p.2.list.length kc], .agg #[.int .i64 q.1.k, .int .i64 q.1.n, .int .i64 q.1.s, .string q.1.t, .slice na2 q.1.ns.length nc2, .slice ka2 q.2.list.length kc2]] w fun e w' => e = .returned (.int .i64 (cmpC p q)) ∧ Below w.heap.size w w' := by
  obtain ⟨w1, HW1⟩ : ∃ w1, Hid (((w.alloc (.cells #[.int .i64 p.1.k, .int .i64 p.1.n, .int .i64 p.1.s, .string p.1.t, .slice na p.1.ns.length nc, .slice ka p.2.list.length kc] 25)).alloc (.cells #[.int .i64 q.1.k, .int .i64 q.1.n, .int .i64 q.1.s, .string q.1.t, .slice na2 q.1.ns.length nc2, .slice ka2 q.2.list.length kc2] 25)) = w1) := ⟨_, rfl⟩
  have b0 : Below w.heap.size w w1 := by rw [← HW1.out]; exact ((Below.refl _ _).alloc (Nat.le_refl _) _).alloc (by simp) _
  have HC : Hid (∀ W, Below w1.heap.size w1 W → Nd W w.heap.size 0 p.1 na nc ka p.2.list.length kc ∧ Nd W (w.heap.size + 1) 0 q.1 na2 nc2 ka2 q.2.list.length kc2) := fun W hb => by
    rw [← HW1.out] at hb
    have e1 : Below (w.alloc (.cells #[.int .i64 p.1.k, .int .i64 p.1.n, .int .i64 p.1.s, .string p.1.t, .slice na p.1.ns.length nc, .slice ka p.2.list.length kc] 25)).heap.size (w.alloc (.cells #[.int .i64 p.1.k, .int .i64 p.1.n, .int .i64 p.1.s, .string p.1.t, .slice na p.1.ns.length nc, .slice ka p.2.list.length kc] 25)) W := ((Below.refl _ _).alloc (Nat.le_refl _) _).trans (hb.mono (by simp))
    have g2 := box_nd hb
    have e2 : (w.alloc (.cells #[.int .i64 p.1.k, .int .i64 p.1.n, .int .i64 p.1.s, .string p.1.t, .slice na p.1.ns.length nc, .slice ka p.2.list.length kc] 25)).heap.size = w.heap.size + 1 := by simp
    rw [e2] at g2
    exact ⟨box_nd e1, g2⟩
  have v1 := hv.below b0
  have v2 := hv2.below b0
  obtain ⟨C, hC⟩ : ∃ C : World → Prop, C = fun W => Below w1.heap.size w1 W := ⟨_, rfl⟩
  have CD : Hid (∀ W, C W → C { W with drawn := W.drawn + 1 }) := fun W h => by rw [hC] at h ⊢; exact h.drew
  have CA : Hid (∀ W o, C W → C (W.alloc o)) := fun W o h => by rw [hC] at h ⊢; exact h.alloc h.size _
  have CB : Hid (∀ W W', C W → Below W.heap.size W W' → C W') := fun W W' h hb => by rw [hC] at h ⊢; exact h.trans (hb.mono h.size)
  have CE : Hid (∀ W, C W → Below w.heap.size w W) := fun W h => by rw [hC] at h; exact b0.trans (h.mono b0.size)
  have HCw : Hid (C w1) := by rw [hC]; exact Below.refl _ _
  have N1 : Hid (∀ W, C W → Nd W w.heap.size 0 p.1 na nc ka p.2.list.length kc) := fun W h => by rw [hC] at h; exact (HC.out W h).1
  have N2 : Hid (∀ W, C W → Nd W (w.heap.size + 1) 0 q.1 na2 nc2 ka2 q.2.list.length kc2) := fun W h => by rw [hC] at h; exact (HC.out W h).2
  have V1 : Hid (∀ W, C W → Vl W p na nc ka kc) := fun W h => by rw [hC] at h; exact v1.below h
  have V2 : Hid (∀ W, C W → Vl W q na2 nc2 ka2 kc2) := fun W h => by rw [hC] at h; exact v2.below h
  have hCp : ∀ p : Prop, (∀ W, C W → p) ↔ p := fun p => ⟨fun h => h _ HCw.out, fun h _ _ => h⟩
  have hkl := hwf.2.1
  have hkl2 := hwq.2.1
  have HW : Hid (WfV p) := hwf
  have HWq : Hid (WfV q) := hwq
  obtain ⟨R, hR⟩ : ∃ R, R = cmpC p q := ⟨_, rfl⟩
  rw [← hR]
  by_cases h1 : chkV p 1 = 0
  case neg =>
    have HR : Hid (R = 0) := by show _ = _; rw [hR]; simp [cmpC, h1]
    obtain ⟨Xp, hXp⟩ : ∃ X, chkV p 1 = X := ⟨_, rfl⟩
    rw [hXp] at h1
    have k1 : Hid (∀ W, C W → Calls Try.prog 25 #[.agg #[.int .i64 p.1.k, .int .i64 p.1.n, .int .i64 p.1.s, .string p.1.t, .slice na p.1.ns.length nc, .slice ka p.2.list.length kc]] W fun e w' => e = .returned (.bool false) ∧ C w') := fun W hW => by
      have hh := isValue_any p hwf na nc ka kc W (V1.out W hW)
      rw [show (chkV p 1 == 0) = false by simp [hXp, h1]] at hh
      exact hh.mono fun e w' ⟨he, hb⟩ => ⟨he, CB.out _ _ hW hb⟩
    clear hC HC b0 v1 v2 hwf hwq hv hv2
    clear hR hXp
    go_enter Try.func15, Try.ntmps15
    go_wp2_with fail
    generalize hWW : World.alloc (World.alloc w _) _ = W9
    obtain rfl : w1 = W9 := by rw [← hWW, ← HW1.out]
    clear hWW HW1
    refine (k1.out _ HCw.out).mono ?_
    clear HCw
    rintro e Wk1 ⟨rfl, hC7⟩
    have HCw : Hid (C Wk1) := hC7
    clear hC7
    go_wp2
    go_ret
    exact ⟨ret_num HR.out.symm, CE.out _ HCw.out⟩
  by_cases h2 : chkV q 1 = 0
  case neg =>
    have HR : Hid (R = 0) := by show _ = _; rw [hR]; simp [cmpC, h2]
    obtain ⟨Xq, hXq⟩ : ∃ X, chkV q 1 = X := ⟨_, rfl⟩
    rw [hXq] at h2
    have k1 : Hid (∀ W, C W → Calls Try.prog 25 #[.agg #[.int .i64 p.1.k, .int .i64 p.1.n, .int .i64 p.1.s, .string p.1.t, .slice na p.1.ns.length nc, .slice ka p.2.list.length kc]] W fun e w' => e = .returned (.bool true) ∧ C w') := fun W hW => by
      have hh := isValue_any p hwf na nc ka kc W (V1.out W hW)
      rw [show (chkV p 1 == 0) = true by simp [h1]] at hh
      exact hh.mono fun e w' ⟨he, hb⟩ => ⟨he, CB.out _ _ hW hb⟩
    have k2 : Hid (∀ W, C W → Calls Try.prog 25 #[.agg #[.int .i64 q.1.k, .int .i64 q.1.n, .int .i64 q.1.s, .string q.1.t, .slice na2 q.1.ns.length nc2, .slice ka2 q.2.list.length kc2]] W fun e w' => e = .returned (.bool false) ∧ C w') := fun W hW => by
      have hh := isValue_any q hwq na2 nc2 ka2 kc2 W (V2.out W hW)
      rw [show (chkV q 1 == 0) = false by simp [hXq, h2]] at hh
      exact hh.mono fun e w' ⟨he, hb⟩ => ⟨he, CB.out _ _ hW hb⟩
    clear hC HC b0 v1 v2 hwf hwq hv hv2
    clear hR hXq h1
    go_enter Try.func15, Try.ntmps15
    go_wp2_with fail
    generalize hWW : World.alloc (World.alloc w _) _ = W9
    obtain rfl : w1 = W9 := by rw [← hWW, ← HW1.out]
    clear hWW HW1
    refine (k1.out _ HCw.out).mono ?_
    clear HCw
    rintro e Wk1 ⟨rfl, hC7⟩
    have HCw : Hid (C Wk1) := hC7
    clear hC7
    obtain ⟨c0, c1, c2, c3, c4, c5⟩ := N1.out Wk1 HCw.out
    obtain ⟨e0, e1, e2, e3, e4, e5⟩ := N2.out Wk1 HCw.out
    simp only [Nat.zero_add] at c1 c2 c3 c4 c5 e1 e2 e3 e4 e5
    go_wp2_with fail
    refine (k2.out _ HCw.out).mono ?_
    clear HCw c0 c1 c2 c3 c4 c5 e0 e1 e2 e3 e4 e5
    rintro e Wk2 ⟨rfl, hC7⟩
    have HCw : Hid (C Wk2) := hC7
    clear hC7
    go_wp2
    go_ret
    exact ⟨ret_num HR.out.symm, CE.out _ HCw.out⟩
  have HR : Hid (R = ordV p q) := by show _ = _; rw [hR]; simp [cmpC, h1, h2]
  have k1 : Hid (∀ W, C W → Calls Try.prog 25 #[.agg #[.int .i64 p.1.k, .int .i64 p.1.n, .int .i64 p.1.s, .string p.1.t, .slice na p.1.ns.length nc, .slice ka p.2.list.length kc]] W fun e w' => e = .returned (.bool true) ∧ C w') := fun W hW => by
    have hh := isValue_any p hwf na nc ka kc W (V1.out W hW)
    rw [show (chkV p 1 == 0) = true by simp [h1]] at hh
    exact hh.mono fun e w' ⟨he, hb⟩ => ⟨he, CB.out _ _ hW hb⟩
  have k2 : Hid (∀ W, C W → Calls Try.prog 25 #[.agg #[.int .i64 q.1.k, .int .i64 q.1.n, .int .i64 q.1.s, .string q.1.t, .slice na2 q.1.ns.length nc2, .slice ka2 q.2.list.length kc2]] W fun e w' => e = .returned (.bool true) ∧ C w') := fun W hW => by
    have hh := isValue_any q hwq na2 nc2 ka2 kc2 W (V2.out W hW)
    rw [show (chkV q 1 == 0) = true by simp [h2]] at hh
    exact hh.mono fun e w' ⟨he, hb⟩ => ⟨he, CB.out _ _ hW hb⟩
  have k3 : Hid (∀ W, C W → Calls Try.prog 30 #[.agg #[.int .i64 p.1.k, .int .i64 p.1.n, .int .i64 p.1.s, .string p.1.t, .slice na p.1.ns.length nc, .slice ka p.2.list.length kc], .agg #[.int .i64 q.1.k, .int .i64 q.1.n, .int .i64 q.1.s, .string q.1.t, .slice na2 q.1.ns.length nc2, .slice ka2 q.2.list.length kc2]] W fun e w' => e = .returned (.int .i64 (ordV p q)) ∧ C w') := fun W hW => (vorder_any _ p (Nat.le_refl _) (good_of h1) hwf q (good_of h2) hwq na nc ka kc na2 nc2 ka2 kc2 W (V1.out W hW) (V2.out W hW)).mono fun e w' ⟨he, hb⟩ => ⟨he, CB.out _ _ hW hb⟩
  generalize ordV p q = E at *
  clear hC HC b0 v1 v2 hwf hwq hv hv2
  clear hR h1 h2
  go_enter Try.func15, Try.ntmps15
  go_wp2_with fail
  generalize hWW : World.alloc (World.alloc w _) _ = W9
  obtain rfl : w1 = W9 := by rw [← hWW, ← HW1.out]
  clear hWW HW1
  refine (k1.out _ HCw.out).mono ?_
  clear HCw
  rintro e Wk1 ⟨rfl, hC7⟩
  have HCw : Hid (C Wk1) := hC7
  clear hC7
  obtain ⟨c0, c1, c2, c3, c4, c5⟩ := N1.out Wk1 HCw.out
  obtain ⟨e0, e1, e2, e3, e4, e5⟩ := N2.out Wk1 HCw.out
  simp only [Nat.zero_add] at c1 c2 c3 c4 c5 e1 e2 e3 e4 e5
  go_wp2_with fail
  refine (k2.out _ HCw.out).mono ?_
  clear HCw c0 c1 c2 c3 c4 c5 e0 e1 e2 e3 e4 e5
  rintro e Wk2 ⟨rfl, hC7⟩
  have HCw : Hid (C Wk2) := hC7
  clear hC7
  obtain ⟨c0, c1, c2, c3, c4, c5⟩ := N1.out Wk2 HCw.out
  obtain ⟨e0, e1, e2, e3, e4, e5⟩ := N2.out Wk2 HCw.out
  simp only [Nat.zero_add] at c1 c2 c3 c4 c5 e1 e2 e3 e4 e5
  go_wp2_with fail
  refine (k3.out _ HCw.out).mono ?_
  clear HCw c0 c1 c2 c3 c4 c5 e0 e1 e2 e3 e4 e5
  rintro e Wk3 ⟨rfl, hC7⟩
  have HCw : Hid (C Wk3) := hC7
  clear hC7
  go_wp2
  go_ret
  exact ⟨ret_num HR.out.symm, CE.out _ HCw.out⟩
set_option maxRecDepth 8000 in
set_option maxHeartbeats 4000000 in
theorem rCompare (p q : Vt) (hwf : WfV p) (hwq : WfV q) (na : Option Addr) (nc : Nat) (ka : Option Addr) (kc : Nat) (na2 : Option Addr) (nc2 : Nat) (ka2 : Option Addr) (kc2 : Nat) (w : World) (hv : Vl w p na nc ka kc) (hv2 : Vl w q na2 nc2 ka2 kc2) :
    Calls Try.prog 16 #[.agg #[.int .i64 p.1.k, .int .i64 p.1.n, .int .i64 p.1.s, .string p.1.t, .slice na p.1.ns.length nc, .slice ka p.2.list.length kc], .agg #[.int .i64 q.1.k, .int .i64 q.1.n, .int .i64 q.1.s, .string q.1.t, .slice na2 q.1.ns.length nc2, .slice ka2 q.2.list.length kc2]] w fun e w' => e = .returned (.int .i64 (cmpC p q)) ∧ Below w.heap.size w w' := by
  obtain ⟨w1, HW1⟩ : ∃ w1, Hid (((w.alloc (.cells #[.int .i64 p.1.k, .int .i64 p.1.n, .int .i64 p.1.s, .string p.1.t, .slice na p.1.ns.length nc, .slice ka p.2.list.length kc] 25)).alloc (.cells #[.int .i64 q.1.k, .int .i64 q.1.n, .int .i64 q.1.s, .string q.1.t, .slice na2 q.1.ns.length nc2, .slice ka2 q.2.list.length kc2] 25)) = w1) := ⟨_, rfl⟩
  have b0 : Below w.heap.size w w1 := by rw [← HW1.out]; exact ((Below.refl _ _).alloc (Nat.le_refl _) _).alloc (by simp) _
  have HC : Hid (∀ W, Below w1.heap.size w1 W → Nd W w.heap.size 0 p.1 na nc ka p.2.list.length kc ∧ Nd W (w.heap.size + 1) 0 q.1 na2 nc2 ka2 q.2.list.length kc2) := fun W hb => by
    rw [← HW1.out] at hb
    have e1 : Below (w.alloc (.cells #[.int .i64 p.1.k, .int .i64 p.1.n, .int .i64 p.1.s, .string p.1.t, .slice na p.1.ns.length nc, .slice ka p.2.list.length kc] 25)).heap.size (w.alloc (.cells #[.int .i64 p.1.k, .int .i64 p.1.n, .int .i64 p.1.s, .string p.1.t, .slice na p.1.ns.length nc, .slice ka p.2.list.length kc] 25)) W := ((Below.refl _ _).alloc (Nat.le_refl _) _).trans (hb.mono (by simp))
    have g2 := box_nd hb
    have e2 : (w.alloc (.cells #[.int .i64 p.1.k, .int .i64 p.1.n, .int .i64 p.1.s, .string p.1.t, .slice na p.1.ns.length nc, .slice ka p.2.list.length kc] 25)).heap.size = w.heap.size + 1 := by simp
    rw [e2] at g2
    exact ⟨box_nd e1, g2⟩
  have v1 := hv.below b0
  have v2 := hv2.below b0
  obtain ⟨C, hC⟩ : ∃ C : World → Prop, C = fun W => Below w1.heap.size w1 W := ⟨_, rfl⟩
  have CD : Hid (∀ W, C W → C { W with drawn := W.drawn + 1 }) := fun W h => by rw [hC] at h ⊢; exact h.drew
  have CA : Hid (∀ W o, C W → C (W.alloc o)) := fun W o h => by rw [hC] at h ⊢; exact h.alloc h.size _
  have CB : Hid (∀ W W', C W → Below W.heap.size W W' → C W') := fun W W' h hb => by rw [hC] at h ⊢; exact h.trans (hb.mono h.size)
  have CE : Hid (∀ W, C W → Below w.heap.size w W) := fun W h => by rw [hC] at h; exact b0.trans (h.mono b0.size)
  have HCw : Hid (C w1) := by rw [hC]; exact Below.refl _ _
  have N1 : Hid (∀ W, C W → Nd W w.heap.size 0 p.1 na nc ka p.2.list.length kc) := fun W h => by rw [hC] at h; exact (HC.out W h).1
  have N2 : Hid (∀ W, C W → Nd W (w.heap.size + 1) 0 q.1 na2 nc2 ka2 q.2.list.length kc2) := fun W h => by rw [hC] at h; exact (HC.out W h).2
  have V1 : Hid (∀ W, C W → Vl W p na nc ka kc) := fun W h => by rw [hC] at h; exact v1.below h
  have V2 : Hid (∀ W, C W → Vl W q na2 nc2 ka2 kc2) := fun W h => by rw [hC] at h; exact v2.below h
  have hCp : ∀ p : Prop, (∀ W, C W → p) ↔ p := fun p => ⟨fun h => h _ HCw.out, fun h _ _ => h⟩
  have hkl := hwf.2.1
  have hkl2 := hwq.2.1
  have HW : Hid (WfV p) := hwf
  have HWq : Hid (WfV q) := hwq
  obtain ⟨R, hR⟩ : ∃ R, R = cmpC p q := ⟨_, rfl⟩
  rw [← hR]
  by_cases h1 : chkV p 1 = 0
  case neg =>
    have HR : Hid (R = 0) := by show _ = _; rw [hR]; simp [cmpC, h1]
    obtain ⟨Xp, hXp⟩ : ∃ X, chkV p 1 = X := ⟨_, rfl⟩
    rw [hXp] at h1
    have k1 : Hid (∀ W, C W → Calls Try.prog 12 #[.agg #[.int .i64 p.1.k, .int .i64 p.1.n, .int .i64 p.1.s, .string p.1.t, .slice na p.1.ns.length nc, .slice ka p.2.list.length kc]] W fun e w' => e = .returned (.int .i64 Xp) ∧ C w') := fun W hW => by
      have hh := rCheck_any p hwf na nc ka kc W (V1.out W hW)
      rw [hXp] at hh
      exact hh.mono fun e w' ⟨he, hb⟩ => ⟨he, CB.out _ _ hW hb⟩
    clear hC HC b0 v1 v2 hwf hwq hv hv2
    clear hR hXp
    go_enter Try.func16, Try.ntmps16
    go_wp2_with fail
    generalize hWW : World.alloc (World.alloc w _) _ = W9
    obtain rfl : w1 = W9 := by rw [← hWW, ← HW1.out]
    clear hWW HW1
    refine (k1.out _ HCw.out).mono ?_
    clear HCw
    rintro e Wk1 ⟨rfl, hC7⟩
    have HCw : Hid (C Wk1) := hC7
    clear hC7
    go_wp2
    go_ret
    exact ⟨ret_num HR.out.symm, CE.out _ HCw.out⟩
  by_cases h2 : chkV q 1 = 0
  case neg =>
    have HR : Hid (R = 0) := by show _ = _; rw [hR]; simp [cmpC, h2]
    obtain ⟨Xq, hXq⟩ : ∃ X, chkV q 1 = X := ⟨_, rfl⟩
    rw [hXq] at h2
    have k1 : Hid (∀ W, C W → Calls Try.prog 12 #[.agg #[.int .i64 p.1.k, .int .i64 p.1.n, .int .i64 p.1.s, .string p.1.t, .slice na p.1.ns.length nc, .slice ka p.2.list.length kc]] W fun e w' => e = .returned (.int .i64 0) ∧ C w') := fun W hW => by
      have hh := rCheck_any p hwf na nc ka kc W (V1.out W hW)
      rw [h1] at hh
      exact hh.mono fun e w' ⟨he, hb⟩ => ⟨he, CB.out _ _ hW hb⟩
    have k2 : Hid (∀ W, C W → Calls Try.prog 12 #[.agg #[.int .i64 q.1.k, .int .i64 q.1.n, .int .i64 q.1.s, .string q.1.t, .slice na2 q.1.ns.length nc2, .slice ka2 q.2.list.length kc2]] W fun e w' => e = .returned (.int .i64 Xq) ∧ C w') := fun W hW => by
      have hh := rCheck_any q hwq na2 nc2 ka2 kc2 W (V2.out W hW)
      rw [hXq] at hh
      exact hh.mono fun e w' ⟨he, hb⟩ => ⟨he, CB.out _ _ hW hb⟩
    clear hC HC b0 v1 v2 hwf hwq hv hv2
    clear hR hXq h1
    go_enter Try.func16, Try.ntmps16
    go_wp2_with fail
    generalize hWW : World.alloc (World.alloc w _) _ = W9
    obtain rfl : w1 = W9 := by rw [← hWW, ← HW1.out]
    clear hWW HW1
    refine (k1.out _ HCw.out).mono ?_
    clear HCw
    rintro e Wk1 ⟨rfl, hC7⟩
    have HCw : Hid (C Wk1) := hC7
    clear hC7
    obtain ⟨c0, c1, c2, c3, c4, c5⟩ := N1.out Wk1 HCw.out
    obtain ⟨e0, e1, e2, e3, e4, e5⟩ := N2.out Wk1 HCw.out
    simp only [Nat.zero_add] at c1 c2 c3 c4 c5 e1 e2 e3 e4 e5
    go_wp2_with fail
    refine (k2.out _ HCw.out).mono ?_
    clear HCw c0 c1 c2 c3 c4 c5 e0 e1 e2 e3 e4 e5
    rintro e Wk2 ⟨rfl, hC7⟩
    have HCw : Hid (C Wk2) := hC7
    clear hC7
    go_wp2
    go_ret
    exact ⟨ret_num HR.out.symm, CE.out _ HCw.out⟩
  have HR : Hid (R = ordV p q) := by show _ = _; rw [hR]; simp [cmpC, h1, h2]
  have k1 : Hid (∀ W, C W → Calls Try.prog 12 #[.agg #[.int .i64 p.1.k, .int .i64 p.1.n, .int .i64 p.1.s, .string p.1.t, .slice na p.1.ns.length nc, .slice ka p.2.list.length kc]] W fun e w' => e = .returned (.int .i64 0) ∧ C w') := fun W hW => by
    have hh := rCheck_any p hwf na nc ka kc W (V1.out W hW)
    rw [h1] at hh
    exact hh.mono fun e w' ⟨he, hb⟩ => ⟨he, CB.out _ _ hW hb⟩
  have k2 : Hid (∀ W, C W → Calls Try.prog 12 #[.agg #[.int .i64 q.1.k, .int .i64 q.1.n, .int .i64 q.1.s, .string q.1.t, .slice na2 q.1.ns.length nc2, .slice ka2 q.2.list.length kc2]] W fun e w' => e = .returned (.int .i64 0) ∧ C w') := fun W hW => by
    have hh := rCheck_any q hwq na2 nc2 ka2 kc2 W (V2.out W hW)
    rw [h2] at hh
    exact hh.mono fun e w' ⟨he, hb⟩ => ⟨he, CB.out _ _ hW hb⟩
  have k3 : Hid (∀ W, C W → Calls Try.prog 31 #[.agg #[.int .i64 p.1.k, .int .i64 p.1.n, .int .i64 p.1.s, .string p.1.t, .slice na p.1.ns.length nc, .slice ka p.2.list.length kc], .agg #[.int .i64 q.1.k, .int .i64 q.1.n, .int .i64 q.1.s, .string q.1.t, .slice na2 q.1.ns.length nc2, .slice ka2 q.2.list.length kc2]] W fun e w' => e = .returned (.int .i64 (ordV p q)) ∧ C w') := fun W hW => (rorder_any _ p (Nat.le_refl _) (good_of h1) hwf q (good_of h2) hwq na nc ka kc na2 nc2 ka2 kc2 W (V1.out W hW) (V2.out W hW)).mono fun e w' ⟨he, hb⟩ => ⟨he, CB.out _ _ hW hb⟩
  generalize ordV p q = E at *
  clear hC HC b0 v1 v2 hwf hwq hv hv2
  clear hR h1 h2
  go_enter Try.func16, Try.ntmps16
  go_wp2_with fail
  generalize hWW : World.alloc (World.alloc w _) _ = W9
  obtain rfl : w1 = W9 := by rw [← hWW, ← HW1.out]
  clear hWW HW1
  refine (k1.out _ HCw.out).mono ?_
  clear HCw
  rintro e Wk1 ⟨rfl, hC7⟩
  have HCw : Hid (C Wk1) := hC7
  clear hC7
  obtain ⟨c0, c1, c2, c3, c4, c5⟩ := N1.out Wk1 HCw.out
  obtain ⟨e0, e1, e2, e3, e4, e5⟩ := N2.out Wk1 HCw.out
  simp only [Nat.zero_add] at c1 c2 c3 c4 c5 e1 e2 e3 e4 e5
  go_wp2_with fail
  refine (k2.out _ HCw.out).mono ?_
  clear HCw c0 c1 c2 c3 c4 c5 e0 e1 e2 e3 e4 e5
  rintro e Wk2 ⟨rfl, hC7⟩
  have HCw : Hid (C Wk2) := hC7
  clear hC7
  obtain ⟨c0, c1, c2, c3, c4, c5⟩ := N1.out Wk2 HCw.out
  obtain ⟨e0, e1, e2, e3, e4, e5⟩ := N2.out Wk2 HCw.out
  simp only [Nat.zero_add] at c1 c2 c3 c4 c5 e1 e2 e3 e4 e5
  go_wp2_with fail
  refine (k3.out _ HCw.out).mono ?_
  clear HCw c0 c1 c2 c3 c4 c5 e0 e1 e2 e3 e4 e5
  rintro e Wk3 ⟨rfl, hC7⟩
  have HCw : Hid (C Wk3) := hC7
  clear hC7
  go_wp2
  go_ret
  exact ⟨ret_num HR.out.symm, CE.out _ HCw.out⟩
set_option maxRecDepth 8000 in
set_option maxHeartbeats 4000000 in
theorem vSame (p q : Vt) (hwf : WfV p) (hwq : WfV q) (na : Option Addr) (nc : Nat) (ka : Option Addr) (kc : Nat) (na2 : Option Addr) (nc2 : Nat) (ka2 : Option Addr) (kc2 : Nat) (w : World) (hv : Vl w p na nc ka kc) (hv2 : Vl w q na2 nc2 ka2 kc2) :
    Calls Try.prog 17 #[.agg #[.int .i64 p.1.k, .int .i64 p.1.n, .int .i64 p.1.s, .string p.1.t, .slice na p.1.ns.length nc, .slice ka p.2.list.length kc], .agg #[.int .i64 q.1.k, .int .i64 q.1.n, .int .i64 q.1.s, .string q.1.t, .slice na2 q.1.ns.length nc2, .slice ka2 q.2.list.length kc2]] w fun e w' => e = .returned (.bool (samC p q)) ∧ Below w.heap.size w w' := by
  obtain ⟨w1, HW1⟩ : ∃ w1, Hid (((w.alloc (.cells #[.int .i64 p.1.k, .int .i64 p.1.n, .int .i64 p.1.s, .string p.1.t, .slice na p.1.ns.length nc, .slice ka p.2.list.length kc] 25)).alloc (.cells #[.int .i64 q.1.k, .int .i64 q.1.n, .int .i64 q.1.s, .string q.1.t, .slice na2 q.1.ns.length nc2, .slice ka2 q.2.list.length kc2] 25)) = w1) := ⟨_, rfl⟩
  have b0 : Below w.heap.size w w1 := by rw [← HW1.out]; exact ((Below.refl _ _).alloc (Nat.le_refl _) _).alloc (by simp) _
  have HC : Hid (∀ W, Below w1.heap.size w1 W → Nd W w.heap.size 0 p.1 na nc ka p.2.list.length kc ∧ Nd W (w.heap.size + 1) 0 q.1 na2 nc2 ka2 q.2.list.length kc2) := fun W hb => by
    rw [← HW1.out] at hb
    have e1 : Below (w.alloc (.cells #[.int .i64 p.1.k, .int .i64 p.1.n, .int .i64 p.1.s, .string p.1.t, .slice na p.1.ns.length nc, .slice ka p.2.list.length kc] 25)).heap.size (w.alloc (.cells #[.int .i64 p.1.k, .int .i64 p.1.n, .int .i64 p.1.s, .string p.1.t, .slice na p.1.ns.length nc, .slice ka p.2.list.length kc] 25)) W := ((Below.refl _ _).alloc (Nat.le_refl _) _).trans (hb.mono (by simp))
    have g2 := box_nd hb
    have e2 : (w.alloc (.cells #[.int .i64 p.1.k, .int .i64 p.1.n, .int .i64 p.1.s, .string p.1.t, .slice na p.1.ns.length nc, .slice ka p.2.list.length kc] 25)).heap.size = w.heap.size + 1 := by simp
    rw [e2] at g2
    exact ⟨box_nd e1, g2⟩
  have v1 := hv.below b0
  have v2 := hv2.below b0
  obtain ⟨C, hC⟩ : ∃ C : World → Prop, C = fun W => Below w1.heap.size w1 W := ⟨_, rfl⟩
  have CD : Hid (∀ W, C W → C { W with drawn := W.drawn + 1 }) := fun W h => by rw [hC] at h ⊢; exact h.drew
  have CA : Hid (∀ W o, C W → C (W.alloc o)) := fun W o h => by rw [hC] at h ⊢; exact h.alloc h.size _
  have CB : Hid (∀ W W', C W → Below W.heap.size W W' → C W') := fun W W' h hb => by rw [hC] at h ⊢; exact h.trans (hb.mono h.size)
  have CE : Hid (∀ W, C W → Below w.heap.size w W) := fun W h => by rw [hC] at h; exact b0.trans (h.mono b0.size)
  have HCw : Hid (C w1) := by rw [hC]; exact Below.refl _ _
  have N1 : Hid (∀ W, C W → Nd W w.heap.size 0 p.1 na nc ka p.2.list.length kc) := fun W h => by rw [hC] at h; exact (HC.out W h).1
  have N2 : Hid (∀ W, C W → Nd W (w.heap.size + 1) 0 q.1 na2 nc2 ka2 q.2.list.length kc2) := fun W h => by rw [hC] at h; exact (HC.out W h).2
  have V1 : Hid (∀ W, C W → Vl W p na nc ka kc) := fun W h => by rw [hC] at h; exact v1.below h
  have V2 : Hid (∀ W, C W → Vl W q na2 nc2 ka2 kc2) := fun W h => by rw [hC] at h; exact v2.below h
  have hCp : ∀ p : Prop, (∀ W, C W → p) ↔ p := fun p => ⟨fun h => h _ HCw.out, fun h _ _ => h⟩
  have hkl := hwf.2.1
  have hkl2 := hwq.2.1
  have HW : Hid (WfV p) := hwf
  have HWq : Hid (WfV q) := hwq
  obtain ⟨R, hR⟩ : ∃ R, R = samC p q := ⟨_, rfl⟩
  rw [← hR]
  by_cases h1 : chkV p 1 = 0
  case neg =>
    have HR : Hid (R = false) := by show _ = _; rw [hR]; simp [samC, h1]
    obtain ⟨Xp, hXp⟩ : ∃ X, chkV p 1 = X := ⟨_, rfl⟩
    rw [hXp] at h1
    have k1 : Hid (∀ W, C W → Calls Try.prog 25 #[.agg #[.int .i64 p.1.k, .int .i64 p.1.n, .int .i64 p.1.s, .string p.1.t, .slice na p.1.ns.length nc, .slice ka p.2.list.length kc]] W fun e w' => e = .returned (.bool false) ∧ C w') := fun W hW => by
      have hh := isValue_any p hwf na nc ka kc W (V1.out W hW)
      rw [show (chkV p 1 == 0) = false by simp [hXp, h1]] at hh
      exact hh.mono fun e w' ⟨he, hb⟩ => ⟨he, CB.out _ _ hW hb⟩
    clear hC HC b0 v1 v2 hwf hwq hv hv2
    clear hR hXp
    go_enter Try.func17, Try.ntmps17
    go_wp2_with fail
    generalize hWW : World.alloc (World.alloc w _) _ = W9
    obtain rfl : w1 = W9 := by rw [← hWW, ← HW1.out]
    clear hWW HW1
    refine (k1.out _ HCw.out).mono ?_
    clear HCw
    rintro e Wk1 ⟨rfl, hC7⟩
    have HCw : Hid (C Wk1) := hC7
    clear hC7
    go_wp2
    go_ret
    exact ⟨ret_bool HR.out.symm, CE.out _ HCw.out⟩
  by_cases h2 : chkV q 1 = 0
  case neg =>
    have HR : Hid (R = false) := by show _ = _; rw [hR]; simp [samC, h2]
    obtain ⟨Xq, hXq⟩ : ∃ X, chkV q 1 = X := ⟨_, rfl⟩
    rw [hXq] at h2
    have k1 : Hid (∀ W, C W → Calls Try.prog 25 #[.agg #[.int .i64 p.1.k, .int .i64 p.1.n, .int .i64 p.1.s, .string p.1.t, .slice na p.1.ns.length nc, .slice ka p.2.list.length kc]] W fun e w' => e = .returned (.bool true) ∧ C w') := fun W hW => by
      have hh := isValue_any p hwf na nc ka kc W (V1.out W hW)
      rw [show (chkV p 1 == 0) = true by simp [h1]] at hh
      exact hh.mono fun e w' ⟨he, hb⟩ => ⟨he, CB.out _ _ hW hb⟩
    have k2 : Hid (∀ W, C W → Calls Try.prog 25 #[.agg #[.int .i64 q.1.k, .int .i64 q.1.n, .int .i64 q.1.s, .string q.1.t, .slice na2 q.1.ns.length nc2, .slice ka2 q.2.list.length kc2]] W fun e w' => e = .returned (.bool false) ∧ C w') := fun W hW => by
      have hh := isValue_any q hwq na2 nc2 ka2 kc2 W (V2.out W hW)
      rw [show (chkV q 1 == 0) = false by simp [hXq, h2]] at hh
      exact hh.mono fun e w' ⟨he, hb⟩ => ⟨he, CB.out _ _ hW hb⟩
    clear hC HC b0 v1 v2 hwf hwq hv hv2
    clear hR hXq h1
    go_enter Try.func17, Try.ntmps17
    go_wp2_with fail
    generalize hWW : World.alloc (World.alloc w _) _ = W9
    obtain rfl : w1 = W9 := by rw [← hWW, ← HW1.out]
    clear hWW HW1
    refine (k1.out _ HCw.out).mono ?_
    clear HCw
    rintro e Wk1 ⟨rfl, hC7⟩
    have HCw : Hid (C Wk1) := hC7
    clear hC7
    obtain ⟨c0, c1, c2, c3, c4, c5⟩ := N1.out Wk1 HCw.out
    obtain ⟨e0, e1, e2, e3, e4, e5⟩ := N2.out Wk1 HCw.out
    simp only [Nat.zero_add] at c1 c2 c3 c4 c5 e1 e2 e3 e4 e5
    go_wp2_with fail
    refine (k2.out _ HCw.out).mono ?_
    clear HCw c0 c1 c2 c3 c4 c5 e0 e1 e2 e3 e4 e5
    rintro e Wk2 ⟨rfl, hC7⟩
    have HCw : Hid (C Wk2) := hC7
    clear hC7
    go_wp2
    go_ret
    exact ⟨ret_bool HR.out.symm, CE.out _ HCw.out⟩
  have HR : Hid (R = (ordV p q == 0)) := by show _ = _; rw [hR]; simp [samC, h1, h2]
  have k1 : Hid (∀ W, C W → Calls Try.prog 25 #[.agg #[.int .i64 p.1.k, .int .i64 p.1.n, .int .i64 p.1.s, .string p.1.t, .slice na p.1.ns.length nc, .slice ka p.2.list.length kc]] W fun e w' => e = .returned (.bool true) ∧ C w') := fun W hW => by
    have hh := isValue_any p hwf na nc ka kc W (V1.out W hW)
    rw [show (chkV p 1 == 0) = true by simp [h1]] at hh
    exact hh.mono fun e w' ⟨he, hb⟩ => ⟨he, CB.out _ _ hW hb⟩
  have k2 : Hid (∀ W, C W → Calls Try.prog 25 #[.agg #[.int .i64 q.1.k, .int .i64 q.1.n, .int .i64 q.1.s, .string q.1.t, .slice na2 q.1.ns.length nc2, .slice ka2 q.2.list.length kc2]] W fun e w' => e = .returned (.bool true) ∧ C w') := fun W hW => by
    have hh := isValue_any q hwq na2 nc2 ka2 kc2 W (V2.out W hW)
    rw [show (chkV q 1 == 0) = true by simp [h2]] at hh
    exact hh.mono fun e w' ⟨he, hb⟩ => ⟨he, CB.out _ _ hW hb⟩
  have k3 : Hid (∀ W, C W → Calls Try.prog 30 #[.agg #[.int .i64 p.1.k, .int .i64 p.1.n, .int .i64 p.1.s, .string p.1.t, .slice na p.1.ns.length nc, .slice ka p.2.list.length kc], .agg #[.int .i64 q.1.k, .int .i64 q.1.n, .int .i64 q.1.s, .string q.1.t, .slice na2 q.1.ns.length nc2, .slice ka2 q.2.list.length kc2]] W fun e w' => e = .returned (.int .i64 (ordV p q)) ∧ C w') := fun W hW => (vorder_any _ p (Nat.le_refl _) (good_of h1) hwf q (good_of h2) hwq na nc ka kc na2 nc2 ka2 kc2 W (V1.out W hW) (V2.out W hW)).mono fun e w' ⟨he, hb⟩ => ⟨he, CB.out _ _ hW hb⟩
  generalize ordV p q = E at *
  clear hC HC b0 v1 v2 hwf hwq hv hv2
  clear hR h1 h2
  go_enter Try.func17, Try.ntmps17
  go_wp2_with fail
  generalize hWW : World.alloc (World.alloc w _) _ = W9
  obtain rfl : w1 = W9 := by rw [← hWW, ← HW1.out]
  clear hWW HW1
  refine (k1.out _ HCw.out).mono ?_
  clear HCw
  rintro e Wk1 ⟨rfl, hC7⟩
  have HCw : Hid (C Wk1) := hC7
  clear hC7
  obtain ⟨c0, c1, c2, c3, c4, c5⟩ := N1.out Wk1 HCw.out
  obtain ⟨e0, e1, e2, e3, e4, e5⟩ := N2.out Wk1 HCw.out
  simp only [Nat.zero_add] at c1 c2 c3 c4 c5 e1 e2 e3 e4 e5
  go_wp2_with fail
  refine (k2.out _ HCw.out).mono ?_
  clear HCw c0 c1 c2 c3 c4 c5 e0 e1 e2 e3 e4 e5
  rintro e Wk2 ⟨rfl, hC7⟩
  have HCw : Hid (C Wk2) := hC7
  clear hC7
  obtain ⟨c0, c1, c2, c3, c4, c5⟩ := N1.out Wk2 HCw.out
  obtain ⟨e0, e1, e2, e3, e4, e5⟩ := N2.out Wk2 HCw.out
  simp only [Nat.zero_add] at c1 c2 c3 c4 c5 e1 e2 e3 e4 e5
  go_wp2_with fail
  refine (k3.out _ HCw.out).mono ?_
  clear HCw c0 c1 c2 c3 c4 c5 e0 e1 e2 e3 e4 e5
  rintro e Wk3 ⟨rfl, hC7⟩
  have HCw : Hid (C Wk3) := hC7
  clear hC7
  go_wp2
  go_ret
  exact ⟨ret_bool HR.out.symm, CE.out _ HCw.out⟩
set_option maxRecDepth 8000 in
set_option maxHeartbeats 4000000 in
theorem rSame (p q : Vt) (hwf : WfV p) (hwq : WfV q) (na : Option Addr) (nc : Nat) (ka : Option Addr) (kc : Nat) (na2 : Option Addr) (nc2 : Nat) (ka2 : Option Addr) (kc2 : Nat) (w : World) (hv : Vl w p na nc ka kc) (hv2 : Vl w q na2 nc2 ka2 kc2) :
    Calls Try.prog 18 #[.agg #[.int .i64 p.1.k, .int .i64 p.1.n, .int .i64 p.1.s, .string p.1.t, .slice na p.1.ns.length nc, .slice ka p.2.list.length kc], .agg #[.int .i64 q.1.k, .int .i64 q.1.n, .int .i64 q.1.s, .string q.1.t, .slice na2 q.1.ns.length nc2, .slice ka2 q.2.list.length kc2]] w fun e w' => e = .returned (.bool (samC p q)) ∧ Below w.heap.size w w' := by
  obtain ⟨w1, HW1⟩ : ∃ w1, Hid (((w.alloc (.cells #[.int .i64 p.1.k, .int .i64 p.1.n, .int .i64 p.1.s, .string p.1.t, .slice na p.1.ns.length nc, .slice ka p.2.list.length kc] 25)).alloc (.cells #[.int .i64 q.1.k, .int .i64 q.1.n, .int .i64 q.1.s, .string q.1.t, .slice na2 q.1.ns.length nc2, .slice ka2 q.2.list.length kc2] 25)) = w1) := ⟨_, rfl⟩
  have b0 : Below w.heap.size w w1 := by rw [← HW1.out]; exact ((Below.refl _ _).alloc (Nat.le_refl _) _).alloc (by simp) _
  have HC : Hid (∀ W, Below w1.heap.size w1 W → Nd W w.heap.size 0 p.1 na nc ka p.2.list.length kc ∧ Nd W (w.heap.size + 1) 0 q.1 na2 nc2 ka2 q.2.list.length kc2) := fun W hb => by
    rw [← HW1.out] at hb
    have e1 : Below (w.alloc (.cells #[.int .i64 p.1.k, .int .i64 p.1.n, .int .i64 p.1.s, .string p.1.t, .slice na p.1.ns.length nc, .slice ka p.2.list.length kc] 25)).heap.size (w.alloc (.cells #[.int .i64 p.1.k, .int .i64 p.1.n, .int .i64 p.1.s, .string p.1.t, .slice na p.1.ns.length nc, .slice ka p.2.list.length kc] 25)) W := ((Below.refl _ _).alloc (Nat.le_refl _) _).trans (hb.mono (by simp))
    have g2 := box_nd hb
    have e2 : (w.alloc (.cells #[.int .i64 p.1.k, .int .i64 p.1.n, .int .i64 p.1.s, .string p.1.t, .slice na p.1.ns.length nc, .slice ka p.2.list.length kc] 25)).heap.size = w.heap.size + 1 := by simp
    rw [e2] at g2
    exact ⟨box_nd e1, g2⟩
  have v1 := hv.below b0
  have v2 := hv2.below b0
  obtain ⟨C, hC⟩ : ∃ C : World → Prop, C = fun W => Below w1.heap.size w1 W := ⟨_, rfl⟩
  have CD : Hid (∀ W, C W → C { W with drawn := W.drawn + 1 }) := fun W h => by rw [hC] at h ⊢; exact h.drew
  have CA : Hid (∀ W o, C W → C (W.alloc o)) := fun W o h => by rw [hC] at h ⊢; exact h.alloc h.size _
  have CB : Hid (∀ W W', C W → Below W.heap.size W W' → C W') := fun W W' h hb => by rw [hC] at h ⊢; exact h.trans (hb.mono h.size)
  have CE : Hid (∀ W, C W → Below w.heap.size w W) := fun W h => by rw [hC] at h; exact b0.trans (h.mono b0.size)
  have HCw : Hid (C w1) := by rw [hC]; exact Below.refl _ _
  have N1 : Hid (∀ W, C W → Nd W w.heap.size 0 p.1 na nc ka p.2.list.length kc) := fun W h => by rw [hC] at h; exact (HC.out W h).1
  have N2 : Hid (∀ W, C W → Nd W (w.heap.size + 1) 0 q.1 na2 nc2 ka2 q.2.list.length kc2) := fun W h => by rw [hC] at h; exact (HC.out W h).2
  have V1 : Hid (∀ W, C W → Vl W p na nc ka kc) := fun W h => by rw [hC] at h; exact v1.below h
  have V2 : Hid (∀ W, C W → Vl W q na2 nc2 ka2 kc2) := fun W h => by rw [hC] at h; exact v2.below h
  have hCp : ∀ p : Prop, (∀ W, C W → p) ↔ p := fun p => ⟨fun h => h _ HCw.out, fun h _ _ => h⟩
  have hkl := hwf.2.1
  have hkl2 := hwq.2.1
  have HW : Hid (WfV p) := hwf
  have HWq : Hid (WfV q) := hwq
  obtain ⟨R, hR⟩ : ∃ R, R = samC p q := ⟨_, rfl⟩
  rw [← hR]
  by_cases h1 : chkV p 1 = 0
  case neg =>
    have HR : Hid (R = false) := by show _ = _; rw [hR]; simp [samC, h1]
    obtain ⟨Xp, hXp⟩ : ∃ X, chkV p 1 = X := ⟨_, rfl⟩
    rw [hXp] at h1
    have k1 : Hid (∀ W, C W → Calls Try.prog 12 #[.agg #[.int .i64 p.1.k, .int .i64 p.1.n, .int .i64 p.1.s, .string p.1.t, .slice na p.1.ns.length nc, .slice ka p.2.list.length kc]] W fun e w' => e = .returned (.int .i64 Xp) ∧ C w') := fun W hW => by
      have hh := rCheck_any p hwf na nc ka kc W (V1.out W hW)
      rw [hXp] at hh
      exact hh.mono fun e w' ⟨he, hb⟩ => ⟨he, CB.out _ _ hW hb⟩
    clear hC HC b0 v1 v2 hwf hwq hv hv2
    clear hR hXp
    go_enter Try.func18, Try.ntmps18
    go_wp2_with fail
    generalize hWW : World.alloc (World.alloc w _) _ = W9
    obtain rfl : w1 = W9 := by rw [← hWW, ← HW1.out]
    clear hWW HW1
    refine (k1.out _ HCw.out).mono ?_
    clear HCw
    rintro e Wk1 ⟨rfl, hC7⟩
    have HCw : Hid (C Wk1) := hC7
    clear hC7
    go_wp2
    go_ret
    exact ⟨ret_bool HR.out.symm, CE.out _ HCw.out⟩
  by_cases h2 : chkV q 1 = 0
  case neg =>
    have HR : Hid (R = false) := by show _ = _; rw [hR]; simp [samC, h2]
    obtain ⟨Xq, hXq⟩ : ∃ X, chkV q 1 = X := ⟨_, rfl⟩
    rw [hXq] at h2
    have k1 : Hid (∀ W, C W → Calls Try.prog 12 #[.agg #[.int .i64 p.1.k, .int .i64 p.1.n, .int .i64 p.1.s, .string p.1.t, .slice na p.1.ns.length nc, .slice ka p.2.list.length kc]] W fun e w' => e = .returned (.int .i64 0) ∧ C w') := fun W hW => by
      have hh := rCheck_any p hwf na nc ka kc W (V1.out W hW)
      rw [h1] at hh
      exact hh.mono fun e w' ⟨he, hb⟩ => ⟨he, CB.out _ _ hW hb⟩
    have k2 : Hid (∀ W, C W → Calls Try.prog 12 #[.agg #[.int .i64 q.1.k, .int .i64 q.1.n, .int .i64 q.1.s, .string q.1.t, .slice na2 q.1.ns.length nc2, .slice ka2 q.2.list.length kc2]] W fun e w' => e = .returned (.int .i64 Xq) ∧ C w') := fun W hW => by
      have hh := rCheck_any q hwq na2 nc2 ka2 kc2 W (V2.out W hW)
      rw [hXq] at hh
      exact hh.mono fun e w' ⟨he, hb⟩ => ⟨he, CB.out _ _ hW hb⟩
    clear hC HC b0 v1 v2 hwf hwq hv hv2
    clear hR hXq h1
    go_enter Try.func18, Try.ntmps18
    go_wp2_with fail
    generalize hWW : World.alloc (World.alloc w _) _ = W9
    obtain rfl : w1 = W9 := by rw [← hWW, ← HW1.out]
    clear hWW HW1
    refine (k1.out _ HCw.out).mono ?_
    clear HCw
    rintro e Wk1 ⟨rfl, hC7⟩
    have HCw : Hid (C Wk1) := hC7
    clear hC7
    obtain ⟨c0, c1, c2, c3, c4, c5⟩ := N1.out Wk1 HCw.out
    obtain ⟨e0, e1, e2, e3, e4, e5⟩ := N2.out Wk1 HCw.out
    simp only [Nat.zero_add] at c1 c2 c3 c4 c5 e1 e2 e3 e4 e5
    go_wp2_with fail
    refine (k2.out _ HCw.out).mono ?_
    clear HCw c0 c1 c2 c3 c4 c5 e0 e1 e2 e3 e4 e5
    rintro e Wk2 ⟨rfl, hC7⟩
    have HCw : Hid (C Wk2) := hC7
    clear hC7
    go_wp2
    go_ret
    exact ⟨ret_bool HR.out.symm, CE.out _ HCw.out⟩
  have HR : Hid (R = true ↔ p = q) := by show (R = true ↔ p = q); rw [hR]; simp only [samC, h1, h2]; simpa using ord_zero h1 h2
  have k1 : Hid (∀ W, C W → Calls Try.prog 12 #[.agg #[.int .i64 p.1.k, .int .i64 p.1.n, .int .i64 p.1.s, .string p.1.t, .slice na p.1.ns.length nc, .slice ka p.2.list.length kc]] W fun e w' => e = .returned (.int .i64 0) ∧ C w') := fun W hW => by
    have hh := rCheck_any p hwf na nc ka kc W (V1.out W hW)
    rw [h1] at hh
    exact hh.mono fun e w' ⟨he, hb⟩ => ⟨he, CB.out _ _ hW hb⟩
  have k2 : Hid (∀ W, C W → Calls Try.prog 12 #[.agg #[.int .i64 q.1.k, .int .i64 q.1.n, .int .i64 q.1.s, .string q.1.t, .slice na2 q.1.ns.length nc2, .slice ka2 q.2.list.length kc2]] W fun e w' => e = .returned (.int .i64 0) ∧ C w') := fun W hW => by
    have hh := rCheck_any q hwq na2 nc2 ka2 kc2 W (V2.out W hW)
    rw [h2] at hh
    exact hh.mono fun e w' ⟨he, hb⟩ => ⟨he, CB.out _ _ hW hb⟩
  have k3 : Hid (∀ W, C W → Calls Try.prog 13 #[.agg #[.int .i64 p.1.k, .int .i64 p.1.n, .int .i64 p.1.s, .string p.1.t, .slice na p.1.ns.length nc, .slice ka p.2.list.length kc], .agg #[.int .i64 q.1.k, .int .i64 q.1.n, .int .i64 q.1.s, .string q.1.t, .slice na2 q.1.ns.length nc2, .slice ka2 q.2.list.length kc2]] W fun e w' => ∃ t, e = .returned (.bool t) ∧ Hid ((t = true ↔ p = q) ∧ C w')) := fun W hW => (equal_any _ p (Nat.le_refl _) hwf q hwq na nc ka kc na2 nc2 ka2 kc2 W (V1.out W hW) (V2.out W hW)).mono fun e w' ⟨t, he, hb⟩ => ⟨t, he, hb.out.1, CB.out _ _ hW hb.out.2⟩
  clear hC HC b0 v1 v2 hwf hwq hv hv2
  clear hR h1 h2
  go_enter Try.func18, Try.ntmps18
  go_wp2_with fail
  generalize hWW : World.alloc (World.alloc w _) _ = W9
  obtain rfl : w1 = W9 := by rw [← hWW, ← HW1.out]
  clear hWW HW1
  refine (k1.out _ HCw.out).mono ?_
  clear HCw
  rintro e Wk1 ⟨rfl, hC7⟩
  have HCw : Hid (C Wk1) := hC7
  clear hC7
  obtain ⟨c0, c1, c2, c3, c4, c5⟩ := N1.out Wk1 HCw.out
  obtain ⟨e0, e1, e2, e3, e4, e5⟩ := N2.out Wk1 HCw.out
  simp only [Nat.zero_add] at c1 c2 c3 c4 c5 e1 e2 e3 e4 e5
  go_wp2_with fail
  refine (k2.out _ HCw.out).mono ?_
  clear HCw c0 c1 c2 c3 c4 c5 e0 e1 e2 e3 e4 e5
  rintro e Wk2 ⟨rfl, hC7⟩
  have HCw : Hid (C Wk2) := hC7
  clear hC7
  obtain ⟨c0, c1, c2, c3, c4, c5⟩ := N1.out Wk2 HCw.out
  obtain ⟨e0, e1, e2, e3, e4, e5⟩ := N2.out Wk2 HCw.out
  simp only [Nat.zero_add] at c1 c2 c3 c4 c5 e1 e2 e3 e4 e5
  go_wp2_with fail
  refine (k3.out _ HCw.out).mono ?_
  clear HCw c0 c1 c2 c3 c4 c5 e0 e1 e2 e3 e4 e5
  rintro e Wk3 ⟨t, rfl, hC7⟩
  have HT : Hid (t = true ↔ p = q) := hC7.out.1
  have HCw : Hid (C Wk3) := hC7.out.2
  clear hC7
  go_wp2
  go_ret
  exact ⟨ret_bool (Bool.eq_iff_iff.2 (HT.out.trans HR.out.symm)), CE.out _ HCw.out⟩
end Go.Proofs.Ytiddlpjnfophhaa
