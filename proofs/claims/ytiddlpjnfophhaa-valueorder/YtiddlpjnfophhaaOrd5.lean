/-
  ValueOrder's walk.
-/
import Derived.Test.YtiddlpjnfophhaaOws
namespace Go.Proofs.Ytiddlpjnfophhaa
open Go.RowKit
set_option linter.unusedVariables false
theorem row3_at {p q r : Vt} {na : Option Addr} {nc : Nat} {ka : Option Addr} {kc : Nat} {na2 : Option Addr} {nc2 : Nat} {ka2 : Option Addr} {kc2 : Nat} {na3 : Option Addr} {nc3 : Nat} {ka3 : Option Addr} {kc3 : Nat} {w : World} {T : TypeId} (hv : Vl w p na nc ka kc) (hv2 : Vl w q na2 nc2 ka2 kc2) (hv3 : Vl w r na3 nc3 ka3 kc3) : At (w.alloc (.cells #[.int .i64 p.1.k, .int .i64 p.1.n, .int .i64 p.1.s, .string p.1.t, .slice na p.1.ns.length nc, .slice ka p.2.list.length kc, .int .i64 q.1.k, .int .i64 q.1.n, .int .i64 q.1.s, .string q.1.t, .slice na2 q.1.ns.length nc2, .slice ka2 q.2.list.length kc2, .int .i64 r.1.k, .int .i64 r.1.n, .int .i64 r.1.s, .string r.1.t, .slice na3 r.1.ns.length nc3, .slice ka3 r.2.list.length kc3] T)) (.cons p.1 p.2 (.cons q.1 q.2 (.cons r.1 r.2 .nil))) w.heap.size 0 := by
  have hb : Below w.heap.size w (w.alloc (.cells #[.int .i64 p.1.k, .int .i64 p.1.n, .int .i64 p.1.s, .string p.1.t, .slice na p.1.ns.length nc, .slice ka p.2.list.length kc, .int .i64 q.1.k, .int .i64 q.1.n, .int .i64 q.1.s, .string q.1.t, .slice na2 q.1.ns.length nc2, .slice ka2 q.2.list.length kc2, .int .i64 r.1.k, .int .i64 r.1.n, .int .i64 r.1.s, .string r.1.t, .slice na3 r.1.ns.length nc3, .slice ka3 r.2.list.length kc3] T)) := (Below.refl _ _).alloc (Nat.le_refl _) _
  refine (at_one (na := na) (nc := nc) (ka := ka) (kc := kc) ?_ (hv.below hb) (at_one (na := na2) (nc := nc2) (ka := ka2) (kc := kc2) ?_ (hv2.below hb) (at_one (na := na3) (nc := nc3) (ka := ka3) (kc := kc3) ?_ (hv3.below hb) trivial)))
  all_goals
    constructor <;> simp [World.cell?_alloc_new]
set_option maxRecDepth 8000 in
set_option maxHeartbeats 4000000 in
theorem order_walk (p q r : Vt) (hwf : WfV p) (hwf2 : WfV q) (hwf3 : WfV r) (na : Option Addr) (nc : Nat) (ka : Option Addr) (kc : Nat) (na2 : Option Addr) (nc2 : Nat) (ka2 : Option Addr) (kc2 : Nat) (na3 : Option Addr) (nc3 : Nat) (ka3 : Option Addr) (kc3 : Nat) (w : World) (hv : Vl w p na nc ka kc) (hv2 : Vl w q na2 nc2 ka2 kc2) (hv3 : Vl w r na3 nc3 ka3 kc3) :
    Calls Try.prog 5 #[.agg #[.int .i64 p.1.k, .int .i64 p.1.n, .int .i64 p.1.s, .string p.1.t, .slice na p.1.ns.length nc, .slice ka p.2.list.length kc], .agg #[.int .i64 q.1.k, .int .i64 q.1.n, .int .i64 q.1.s, .string q.1.t, .slice na2 q.1.ns.length nc2, .slice ka2 q.2.list.length kc2], .agg #[.int .i64 r.1.k, .int .i64 r.1.n, .int .i64 r.1.s, .string r.1.t, .slice na3 r.1.ns.length nc3, .slice ka3 r.2.list.length kc3]] w fun e w' => e = .returned (.bool true) ∧ Below w.heap.size w w' := by
  obtain ⟨w1, HW1⟩ : ∃ w1, Hid ((((w.alloc (.cells #[.int .i64 p.1.k, .int .i64 p.1.n, .int .i64 p.1.s, .string p.1.t, .slice na p.1.ns.length nc, .slice ka p.2.list.length kc] 25)).alloc (.cells #[.int .i64 q.1.k, .int .i64 q.1.n, .int .i64 q.1.s, .string q.1.t, .slice na2 q.1.ns.length nc2, .slice ka2 q.2.list.length kc2] 25)).alloc (.cells #[.int .i64 r.1.k, .int .i64 r.1.n, .int .i64 r.1.s, .string r.1.t, .slice na3 r.1.ns.length nc3, .slice ka3 r.2.list.length kc3] 25)) = w1) := ⟨_, rfl⟩
  have hsz : w1.heap.size = w.heap.size + 1 + 1 + 1 := by rw [← HW1.out]; simp
  have HC : Hid (∀ W, Below w1.heap.size w1 W → Below w.heap.size w W ∧ Nd W (w.heap.size) 0 p.1 na nc ka p.2.list.length kc ∧ Nd W (w.heap.size + 1) 0 q.1 na2 nc2 ka2 q.2.list.length kc2 ∧ Nd W (w.heap.size + 1 + 1) 0 r.1 na3 nc3 ka3 r.2.list.length kc3) := fun W hb => by
    rw [← HW1.out] at hb
    have d2 := box_nd hb
    have f2 := box_below _ hb
    have d1 := box_nd f2
    have f1 := box_below _ f2
    have d0 := box_nd f1
    have f0 := box_below _ f1
    have e1 : (w.alloc (.cells #[.int .i64 p.1.k, .int .i64 p.1.n, .int .i64 p.1.s, .string p.1.t, .slice na p.1.ns.length nc, .slice ka p.2.list.length kc] 25)).heap.size = w.heap.size + 1 := by simp
    rw [e1] at d1
    have e2 : ((w.alloc (.cells #[.int .i64 p.1.k, .int .i64 p.1.n, .int .i64 p.1.s, .string p.1.t, .slice na p.1.ns.length nc, .slice ka p.2.list.length kc] 25)).alloc (.cells #[.int .i64 q.1.k, .int .i64 q.1.n, .int .i64 q.1.s, .string q.1.t, .slice na2 q.1.ns.length nc2, .slice ka2 q.2.list.length kc2] 25)).heap.size = w.heap.size + 1 + 1 := by simp
    rw [e2] at d2
    exact ⟨f0, d0, d1, d2⟩
  obtain ⟨C, hC⟩ : ∃ C : World → Prop, C = fun W => Below w1.heap.size w1 W := ⟨_, rfl⟩
  have b0 : Below w.heap.size w w1 := (HC.out w1 (Below.refl _ _)).1
  have CD : Hid (∀ W, C W → C { W with drawn := W.drawn + 1 }) := fun W h => by rw [hC] at h ⊢; exact h.drew
  have CA : Hid (∀ W o, C W → C (W.alloc o)) := fun W o h => by rw [hC] at h ⊢; exact h.alloc h.size _
  have CB : Hid (∀ W W', C W → Below W.heap.size W W' → C W') := fun W W' h hb => by rw [hC] at h ⊢; exact h.trans (hb.mono h.size)
  have CE : Hid (∀ W, C W → Below w.heap.size w W) := fun W h => by rw [hC] at h; exact b0.trans (h.mono b0.size)
  have HCw : Hid (C w1) := by rw [hC]; exact Below.refl _ _
  have N1 : Hid (∀ W, C W → Nd W (w.heap.size) 0 p.1 na nc ka p.2.list.length kc) := fun W h => by rw [hC] at h; exact (HC.out W h).2.1
  have V1 : Hid (∀ W, C W → Vl W p na nc ka kc) := fun W h => by rw [hC] at h; exact (hv.below b0).below h
  have hkl := hwf.2.1
  have N2 : Hid (∀ W, C W → Nd W (w.heap.size + 1) 0 q.1 na2 nc2 ka2 q.2.list.length kc2) := fun W h => by rw [hC] at h; exact (HC.out W h).2.2.1
  have V2 : Hid (∀ W, C W → Vl W q na2 nc2 ka2 kc2) := fun W h => by rw [hC] at h; exact (hv2.below b0).below h
  have hkl2 := hwf2.2.1
  have N3 : Hid (∀ W, C W → Nd W (w.heap.size + 1 + 1) 0 r.1 na3 nc3 ka3 r.2.list.length kc3) := fun W h => by rw [hC] at h; exact (HC.out W h).2.2.2
  have V3 : Hid (∀ W, C W → Vl W r na3 nc3 ka3 kc3) := fun W h => by rw [hC] at h; exact (hv3.below b0).below h
  have hkl3 := hwf3.2.1
  have hCp : ∀ p : Prop, (∀ W, C W → p) ↔ p := fun p => ⟨fun h => h _ HCw.out, fun h _ _ => h⟩
  have hH : Hid (Calls Try.prog 7 #[.slice (some ⟨w.heap.size + 1 + 1 + 1, 0, none⟩) 3 3] (w1.alloc (.cells #[.int .i64 p.1.k, .int .i64 p.1.n, .int .i64 p.1.s, .string p.1.t, .slice na p.1.ns.length nc, .slice ka p.2.list.length kc, .int .i64 q.1.k, .int .i64 q.1.n, .int .i64 q.1.s, .string q.1.t, .slice na2 q.1.ns.length nc2, .slice ka2 q.2.list.length kc2, .int .i64 r.1.k, .int .i64 r.1.n, .int .i64 r.1.s, .string r.1.t, .slice na3 r.1.ns.length nc3, .slice ka3 r.2.list.length kc3] 25)) fun e w' => ∃ t, e = .returned (.bool t) ∧ Hid (C w')) := by
    have h := (heavy_any (.cons p.1 p.2 (.cons q.1 q.2 (.cons r.1 r.2 .nil))) ⟨hwf, hwf2, hwf3, trivial⟩ w1.heap.size 0 3 3 rfl (by omega) _ (row3_at (T := 25) (V1.out w1 HCw.out) (V2.out w1 HCw.out) (V3.out w1 HCw.out))).mono (R' := fun e w' => ∃ t, e = .returned (.bool t) ∧ Hid (C w')) fun e w' ⟨t, he, hh⟩ => ⟨t, he, CB.out _ _ (CA.out _ _ HCw.out) hh.out.2⟩
    rw [hsz] at h
    exact h
  by_cases z1 : chkV p 1 = 0
  case neg =>
    obtain ⟨Xp, hXp⟩ : ∃ X, chkV p 1 = X := ⟨_, rfl⟩
    rw [hXp] at z1
    have ck1 : Hid (∀ W, C W → Calls Try.prog 12 #[.agg #[.int .i64 p.1.k, .int .i64 p.1.n, .int .i64 p.1.s, .string p.1.t, .slice na p.1.ns.length nc, .slice ka p.2.list.length kc]] W fun e w' => e = .returned (.int .i64 Xp) ∧ C w') := fun W hW => (rCheck_any p hwf na nc ka kc W (V1.out W hW)).mono fun e w' ⟨he, hb⟩ => ⟨by rw [he, hXp], CB.out _ _ hW hb⟩
    clear hC HC b0 hwf hv hwf2 hv2 hwf3 hv3
    clear hsz hXp
    go_enter Try.func5, Try.ntmps5
    go_wp2_with fail
    generalize hWW : World.alloc (World.alloc (World.alloc w _) _) _ = W9
    obtain rfl : w1 = W9 := by rw [← hWW, ← HW1.out]
    clear hWW HW1
    refine hH.out.mono ?_
    clear HCw
    rintro e W3 ⟨t, rfl, HCw⟩
    cases t
    case true =>
      go_wp2
      go_ret
      exact ⟨rfl, CE.out _ HCw.out⟩
    obtain ⟨c0, c1, c2, c3, c4, c5⟩ := N1.out W3 HCw.out
    simp only [Nat.zero_add] at c1 c2 c3 c4 c5
    go_wp2_with fail
    refine (ck1.out _ HCw.out).mono ?_
    clear HCw c0 c1 c2 c3 c4 c5
    rintro e Wk1 ⟨rfl, hC7⟩
    have HCw : Hid (C Wk1) := hC7
    clear hC7
    go_wp2
    go_ret
    exact ⟨rfl, CE.out _ HCw.out⟩
  by_cases z2 : chkV q 1 = 0
  case neg =>
    obtain ⟨Xq, hXq⟩ : ∃ X, chkV q 1 = X := ⟨_, rfl⟩
    rw [hXq] at z2
    have ck1 : Hid (∀ W, C W → Calls Try.prog 12 #[.agg #[.int .i64 p.1.k, .int .i64 p.1.n, .int .i64 p.1.s, .string p.1.t, .slice na p.1.ns.length nc, .slice ka p.2.list.length kc]] W fun e w' => e = .returned (.int .i64 0) ∧ C w') := fun W hW => (rCheck_any p hwf na nc ka kc W (V1.out W hW)).mono fun e w' ⟨he, hb⟩ => ⟨by rw [he, z1], CB.out _ _ hW hb⟩
    have ck2 : Hid (∀ W, C W → Calls Try.prog 12 #[.agg #[.int .i64 q.1.k, .int .i64 q.1.n, .int .i64 q.1.s, .string q.1.t, .slice na2 q.1.ns.length nc2, .slice ka2 q.2.list.length kc2]] W fun e w' => e = .returned (.int .i64 Xq) ∧ C w') := fun W hW => (rCheck_any q hwf2 na2 nc2 ka2 kc2 W (V2.out W hW)).mono fun e w' ⟨he, hb⟩ => ⟨by rw [he, hXq], CB.out _ _ hW hb⟩
    clear hC HC b0 hwf hv hwf2 hv2 hwf3 hv3
    clear hsz hXq z1
    go_enter Try.func5, Try.ntmps5
    go_wp2_with fail
    generalize hWW : World.alloc (World.alloc (World.alloc w _) _) _ = W9
    obtain rfl : w1 = W9 := by rw [← hWW, ← HW1.out]
    clear hWW HW1
    refine hH.out.mono ?_
    clear HCw
    rintro e W3 ⟨t, rfl, HCw⟩
    cases t
    case true =>
      go_wp2
      go_ret
      exact ⟨rfl, CE.out _ HCw.out⟩
    obtain ⟨c0, c1, c2, c3, c4, c5⟩ := N1.out W3 HCw.out
    simp only [Nat.zero_add] at c1 c2 c3 c4 c5
    go_wp2_with fail
    refine (ck1.out _ HCw.out).mono ?_
    clear HCw c0 c1 c2 c3 c4 c5
    rintro e Wk1 ⟨rfl, hC7⟩
    have HCw : Hid (C Wk1) := hC7
    clear hC7
    obtain ⟨e0, e1, e2, e3, e4, e5⟩ := N2.out Wk1 HCw.out
    simp only [Nat.zero_add] at e1 e2 e3 e4 e5
    go_wp2_with fail
    refine (ck2.out _ HCw.out).mono ?_
    clear HCw e0 e1 e2 e3 e4 e5
    rintro e Wk2 ⟨rfl, hC7⟩
    have HCw : Hid (C Wk2) := hC7
    clear hC7
    go_wp2
    go_ret
    exact ⟨rfl, CE.out _ HCw.out⟩
  by_cases z3 : chkV r 1 = 0
  case neg =>
    obtain ⟨Xr, hXr⟩ : ∃ X, chkV r 1 = X := ⟨_, rfl⟩
    rw [hXr] at z3
    have ck1 : Hid (∀ W, C W → Calls Try.prog 12 #[.agg #[.int .i64 p.1.k, .int .i64 p.1.n, .int .i64 p.1.s, .string p.1.t, .slice na p.1.ns.length nc, .slice ka p.2.list.length kc]] W fun e w' => e = .returned (.int .i64 0) ∧ C w') := fun W hW => (rCheck_any p hwf na nc ka kc W (V1.out W hW)).mono fun e w' ⟨he, hb⟩ => ⟨by rw [he, z1], CB.out _ _ hW hb⟩
    have ck2 : Hid (∀ W, C W → Calls Try.prog 12 #[.agg #[.int .i64 q.1.k, .int .i64 q.1.n, .int .i64 q.1.s, .string q.1.t, .slice na2 q.1.ns.length nc2, .slice ka2 q.2.list.length kc2]] W fun e w' => e = .returned (.int .i64 0) ∧ C w') := fun W hW => (rCheck_any q hwf2 na2 nc2 ka2 kc2 W (V2.out W hW)).mono fun e w' ⟨he, hb⟩ => ⟨by rw [he, z2], CB.out _ _ hW hb⟩
    have ck3 : Hid (∀ W, C W → Calls Try.prog 12 #[.agg #[.int .i64 r.1.k, .int .i64 r.1.n, .int .i64 r.1.s, .string r.1.t, .slice na3 r.1.ns.length nc3, .slice ka3 r.2.list.length kc3]] W fun e w' => e = .returned (.int .i64 Xr) ∧ C w') := fun W hW => (rCheck_any r hwf3 na3 nc3 ka3 kc3 W (V3.out W hW)).mono fun e w' ⟨he, hb⟩ => ⟨by rw [he, hXr], CB.out _ _ hW hb⟩
    clear hC HC b0 hwf hv hwf2 hv2 hwf3 hv3
    clear hsz hXr z1 z2
    go_enter Try.func5, Try.ntmps5
    go_wp2_with fail
    generalize hWW : World.alloc (World.alloc (World.alloc w _) _) _ = W9
    obtain rfl : w1 = W9 := by rw [← hWW, ← HW1.out]
    clear hWW HW1
    refine hH.out.mono ?_
    clear HCw
    rintro e W3 ⟨t, rfl, HCw⟩
    cases t
    case true =>
      go_wp2
      go_ret
      exact ⟨rfl, CE.out _ HCw.out⟩
    obtain ⟨c0, c1, c2, c3, c4, c5⟩ := N1.out W3 HCw.out
    simp only [Nat.zero_add] at c1 c2 c3 c4 c5
    go_wp2_with fail
    refine (ck1.out _ HCw.out).mono ?_
    clear HCw c0 c1 c2 c3 c4 c5
    rintro e Wk1 ⟨rfl, hC7⟩
    have HCw : Hid (C Wk1) := hC7
    clear hC7
    obtain ⟨e0, e1, e2, e3, e4, e5⟩ := N2.out Wk1 HCw.out
    simp only [Nat.zero_add] at e1 e2 e3 e4 e5
    go_wp2_with fail
    refine (ck2.out _ HCw.out).mono ?_
    clear HCw e0 e1 e2 e3 e4 e5
    rintro e Wk2 ⟨rfl, hC7⟩
    have HCw : Hid (C Wk2) := hC7
    clear hC7
    obtain ⟨f0, f1, f2, f3, f4, f5⟩ := N3.out Wk2 HCw.out
    simp only [Nat.zero_add] at f1 f2 f3 f4 f5
    go_wp2_with fail
    refine (ck3.out _ HCw.out).mono ?_
    clear HCw f0 f1 f2 f3 f4 f5
    rintro e Wk3 ⟨rfl, hC7⟩
    have HCw : Hid (C Wk3) := hC7
    clear hC7
    go_wp2
    go_ret
    exact ⟨rfl, CE.out _ HCw.out⟩
  have ck1 : Hid (∀ W, C W → Calls Try.prog 12 #[.agg #[.int .i64 p.1.k, .int .i64 p.1.n, .int .i64 p.1.s, .string p.1.t, .slice na p.1.ns.length nc, .slice ka p.2.list.length kc]] W fun e w' => e = .returned (.int .i64 0) ∧ C w') := fun W hW => (rCheck_any p hwf na nc ka kc W (V1.out W hW)).mono fun e w' ⟨he, hb⟩ => ⟨by rw [he, z1], CB.out _ _ hW hb⟩
  have ck2 : Hid (∀ W, C W → Calls Try.prog 12 #[.agg #[.int .i64 q.1.k, .int .i64 q.1.n, .int .i64 q.1.s, .string q.1.t, .slice na2 q.1.ns.length nc2, .slice ka2 q.2.list.length kc2]] W fun e w' => e = .returned (.int .i64 0) ∧ C w') := fun W hW => (rCheck_any q hwf2 na2 nc2 ka2 kc2 W (V2.out W hW)).mono fun e w' ⟨he, hb⟩ => ⟨by rw [he, z2], CB.out _ _ hW hb⟩
  have ck3 : Hid (∀ W, C W → Calls Try.prog 12 #[.agg #[.int .i64 r.1.k, .int .i64 r.1.n, .int .i64 r.1.s, .string r.1.t, .slice na3 r.1.ns.length nc3, .slice ka3 r.2.list.length kc3]] W fun e w' => e = .returned (.int .i64 0) ∧ C w') := fun W hW => (rCheck_any r hwf3 na3 nc3 ka3 kc3 W (V3.out W hW)).mono fun e w' ⟨he, hb⟩ => ⟨by rw [he, z3], CB.out _ _ hW hb⟩
  have k1 : Hid (∀ W, C W → Calls Try.prog 15 #[.agg #[.int .i64 p.1.k, .int .i64 p.1.n, .int .i64 p.1.s, .string p.1.t, .slice na p.1.ns.length nc, .slice ka p.2.list.length kc], .agg #[.int .i64 q.1.k, .int .i64 q.1.n, .int .i64 q.1.s, .string q.1.t, .slice na2 q.1.ns.length nc2, .slice ka2 q.2.list.length kc2]] W fun e w' => e = .returned (.int .i64 (cmpC p q)) ∧ C w') := fun W hW => (vCompare p q hwf hwf2 na nc ka kc na2 nc2 ka2 kc2 W (V1.out W hW) (V2.out W hW)).mono fun e w' ⟨he, hb⟩ => ⟨he, CB.out _ _ hW hb⟩
  have k2 : Hid (∀ W, C W → Calls Try.prog 15 #[.agg #[.int .i64 q.1.k, .int .i64 q.1.n, .int .i64 q.1.s, .string q.1.t, .slice na2 q.1.ns.length nc2, .slice ka2 q.2.list.length kc2], .agg #[.int .i64 r.1.k, .int .i64 r.1.n, .int .i64 r.1.s, .string r.1.t, .slice na3 r.1.ns.length nc3, .slice ka3 r.2.list.length kc3]] W fun e w' => e = .returned (.int .i64 (cmpC q r)) ∧ C w') := fun W hW => (vCompare q r hwf2 hwf3 na2 nc2 ka2 kc2 na3 nc3 ka3 kc3 W (V2.out W hW) (V3.out W hW)).mono fun e w' ⟨he, hb⟩ => ⟨he, CB.out _ _ hW hb⟩
  have k3 : Hid (∀ W, C W → Calls Try.prog 15 #[.agg #[.int .i64 p.1.k, .int .i64 p.1.n, .int .i64 p.1.s, .string p.1.t, .slice na p.1.ns.length nc, .slice ka p.2.list.length kc], .agg #[.int .i64 r.1.k, .int .i64 r.1.n, .int .i64 r.1.s, .string r.1.t, .slice na3 r.1.ns.length nc3, .slice ka3 r.2.list.length kc3]] W fun e w' => e = .returned (.int .i64 (cmpC p r)) ∧ C w') := fun W hW => (vCompare p r hwf hwf3 na nc ka kc na3 nc3 ka3 kc3 W (V1.out W hW) (V3.out W hW)).mono fun e w' ⟨he, hb⟩ => ⟨he, CB.out _ _ hW hb⟩
  have k4 : Hid (∀ W, C W → Calls Try.prog 15 #[.agg #[.int .i64 q.1.k, .int .i64 q.1.n, .int .i64 q.1.s, .string q.1.t, .slice na2 q.1.ns.length nc2, .slice ka2 q.2.list.length kc2], .agg #[.int .i64 p.1.k, .int .i64 p.1.n, .int .i64 p.1.s, .string p.1.t, .slice na p.1.ns.length nc, .slice ka p.2.list.length kc]] W fun e w' => e = .returned (.int .i64 (cmpC q p)) ∧ C w') := fun W hW => (vCompare q p hwf2 hwf na2 nc2 ka2 kc2 na nc ka kc W (V2.out W hW) (V1.out W hW)).mono fun e w' ⟨he, hb⟩ => ⟨he, CB.out _ _ hW hb⟩
  have k5 : Hid (∀ W, C W → Calls Try.prog 17 #[.agg #[.int .i64 p.1.k, .int .i64 p.1.n, .int .i64 p.1.s, .string p.1.t, .slice na p.1.ns.length nc, .slice ka p.2.list.length kc], .agg #[.int .i64 q.1.k, .int .i64 q.1.n, .int .i64 q.1.s, .string q.1.t, .slice na2 q.1.ns.length nc2, .slice ka2 q.2.list.length kc2]] W fun e w' => e = .returned (.bool (samC p q)) ∧ C w') := fun W hW => (vSame p q hwf hwf2 na nc ka kc na2 nc2 ka2 kc2 W (V1.out W hW) (V2.out W hW)).mono fun e w' ⟨he, hb⟩ => ⟨he, CB.out _ _ hW hb⟩
  have k6 : Hid (∀ W, C W → Calls Try.prog 15 #[.agg #[.int .i64 p.1.k, .int .i64 p.1.n, .int .i64 p.1.s, .string p.1.t, .slice na p.1.ns.length nc, .slice ka p.2.list.length kc], .agg #[.int .i64 p.1.k, .int .i64 p.1.n, .int .i64 p.1.s, .string p.1.t, .slice na p.1.ns.length nc, .slice ka p.2.list.length kc]] W fun e w' => e = .returned (.int .i64 (cmpC p p)) ∧ C w') := fun W hW => (vCompare p p hwf hwf na nc ka kc na nc ka kc W (V1.out W hW) (V1.out W hW)).mono fun e w' ⟨he, hb⟩ => ⟨he, CB.out _ _ hW hb⟩
  have k7 : Hid (∀ W, C W → Calls Try.prog 14 #[] W fun e w' => e = .returned (.bool true) ∧ C w') := fun W hW => (known_any W).mono fun e w' ⟨he, hb⟩ => ⟨he, CB.out _ _ hW hb⟩
  obtain ⟨X, hX⟩ : ∃ X, cmpC p q = X := ⟨_, rfl⟩
  obtain ⟨Y, hY⟩ : ∃ Y, cmpC q r = Y := ⟨_, rfl⟩
  obtain ⟨Z, hZ⟩ : ∃ Z, cmpC p r = Z := ⟨_, rfl⟩
  have hN : cmpC q p = -X := by rw [← hX, cmpC, cmpC, if_pos ⟨z2, z1⟩, if_pos ⟨z1, z2⟩]; exact ord_turn p q
  have hS : samC p q = (X == 0) := by rw [← hX, samC, cmpC, if_pos ⟨z1, z2⟩, z1, z2]; simp
  have hD : cmpC p p = 0 := by rw [cmpC, if_pos ⟨z1, z1⟩]; exact ord_self p
  have HF : Hid ((X = -1 ∨ X = 0 ∨ X = 1) ∧ (Y = -1 ∨ Y = 0 ∨ Y = 1) ∧ (Z = -1 ∨ Z = 0 ∨ Z = 1) ∧ Thr X Y Z) := by
    have t := ord_thr p q r
    have a := ord_three p q
    have b := ord_three q r
    have c := ord_three p r
    rw [cmpC, if_pos ⟨z1, z2⟩] at hX
    rw [cmpC, if_pos ⟨z2, z3⟩] at hY
    rw [cmpC, if_pos ⟨z1, z3⟩] at hZ
    rw [hX] at t a
    rw [hY] at t b
    rw [hZ] at t c
    exact ⟨by omega, by omega, by omega, t⟩
  rw [hX] at k1
  rw [hY] at k2
  rw [hZ] at k3
  rw [hN] at k4
  rw [hS] at k5
  rw [hD] at k6
  clear hX hY hZ hN hS hD z1 z2 z3 hsz
  clear hC HC b0 hwf hv hwf2 hv2 hwf3 hv3
  go_enter Try.func5, Try.ntmps5
  go_wp2_with fail
  generalize hWW : World.alloc (World.alloc (World.alloc w _) _) _ = W9
  obtain rfl : w1 = W9 := by rw [← hWW, ← HW1.out]
  clear hWW HW1
  refine hH.out.mono ?_
  clear HCw
  rintro e W3 ⟨t, rfl, HCw⟩
  cases t
  case true =>
    go_wp2
    go_ret
    exact ⟨rfl, CE.out _ HCw.out⟩
  obtain ⟨c0, c1, c2, c3, c4, c5⟩ := N1.out W3 HCw.out
  simp only [Nat.zero_add] at c1 c2 c3 c4 c5
  go_wp2_with fail
  refine (ck1.out _ HCw.out).mono ?_
  clear HCw c0 c1 c2 c3 c4 c5
  rintro e Wk1 ⟨rfl, hC7⟩
  have HCw : Hid (C Wk1) := hC7
  clear hC7
  obtain ⟨e0, e1, e2, e3, e4, e5⟩ := N2.out Wk1 HCw.out
  simp only [Nat.zero_add] at e1 e2 e3 e4 e5
  go_wp2_with fail
  refine (ck2.out _ HCw.out).mono ?_
  clear HCw e0 e1 e2 e3 e4 e5
  rintro e Wk2 ⟨rfl, hC7⟩
  have HCw : Hid (C Wk2) := hC7
  clear hC7
  obtain ⟨f0, f1, f2, f3, f4, f5⟩ := N3.out Wk2 HCw.out
  simp only [Nat.zero_add] at f1 f2 f3 f4 f5
  go_wp2_with fail
  refine (ck3.out _ HCw.out).mono ?_
  clear HCw f0 f1 f2 f3 f4 f5
  rintro e Wk3 ⟨rfl, hC7⟩
  have HCw : Hid (C Wk3) := hC7
  clear hC7
  go_wp2
  refine q_region (C := C) (by kernel_rfl) (by kernel_rfl) (CD.out _ HCw.out) ?_
  repeat (first
    | go_big_quiet_skip
    | (go_big_quiet_want
       first
       | (refine q_val (.tmp 3) rfl (w.heap.size) 0 rfl _ _ _ _ _ _ N1.out ?_
          simp only [Act.put, List.setIfInBounds_toArray, List.set_cons_zero, List.set_cons_succ]
          go_big_quiet_on)
       | (refine q_val (.tmp 4) rfl (w.heap.size + 1) 0 rfl _ _ _ _ _ _ N2.out ?_
          simp only [Act.put, List.setIfInBounds_toArray, List.set_cons_zero, List.set_cons_succ]
          go_big_quiet_on)
       | (refine q_val (.tmp 5) rfl (w.heap.size + 1 + 1) 0 rfl _ _ _ _ _ _ N3.out ?_
          simp only [Act.put, List.setIfInBounds_toArray, List.set_cons_zero, List.set_cons_succ]
          go_big_quiet_on)
       | (go_big_quiet_op
          first
          | go_big_quiet_on
          | (apply Exists.intro
             refine ⟨?_, ?_⟩
             · first
               | with_reducible exact k1.out
               | with_reducible exact k2.out
               | with_reducible exact k3.out
             go_big_quiet_on))))
  refine wpQuiet_nil ?_
  clear HCw
  intro W hW
  have HCw : Hid (C W) := hW
  clear hW
  clear k1 k2 k3 ck1 ck2 ck3 hH
  obtain ⟨hx, hy, hz, ht⟩ := HF.out
  clear HF
  have HY : Hid ((Y = -1 ∨ Y = 0 ∨ Y = 1) ∧ (Z = -1 ∨ Z = 0 ∨ Z = 1)) := ⟨hy, hz⟩
  have HT : Hid (Thr X Y Z) := ht
  clear hy hz ht
  rcases hx with rfl | rfl | rfl
  · obtain ⟨c0, c1, c2, c3, c4, c5⟩ := N1.out W HCw.out
    simp only [Nat.zero_add] at c1 c2 c3 c4 c5
    obtain ⟨e0, e1, e2, e3, e4, e5⟩ := N2.out W HCw.out
    simp only [Nat.zero_add] at e1 e2 e3 e4 e5
    go_wp2_with fail
    refine (k4.out _ HCw.out).mono ?_
    clear HCw c0 c1 c2 c3 c4 c5 e0 e1 e2 e3 e4 e5
    rintro e Wk14 ⟨rfl, hC7⟩
    have HCw : Hid (C Wk14) := hC7
    clear hC7
    obtain ⟨c0, c1, c2, c3, c4, c5⟩ := N1.out Wk14 HCw.out
    simp only [Nat.zero_add] at c1 c2 c3 c4 c5
    obtain ⟨e0, e1, e2, e3, e4, e5⟩ := N2.out Wk14 HCw.out
    simp only [Nat.zero_add] at e1 e2 e3 e4 e5
    go_wp2_with fail
    refine (k5.out _ HCw.out).mono ?_
    clear HCw c0 c1 c2 c3 c4 c5 e0 e1 e2 e3 e4 e5
    rintro e Wk15 ⟨rfl, hC7⟩
    have HCw : Hid (C Wk15) := hC7
    clear hC7
    obtain ⟨c0, c1, c2, c3, c4, c5⟩ := N1.out Wk15 HCw.out
    simp only [Nat.zero_add] at c1 c2 c3 c4 c5
    go_wp2_with fail
    refine (k6.out _ HCw.out).mono ?_
    clear HCw c0 c1 c2 c3 c4 c5
    rintro e Wk16 ⟨rfl, hC7⟩
    have HCw : Hid (C Wk16) := hC7
    clear hC7
    obtain ⟨hy, hz⟩ := HY.out
    have ht := HT.out
    clear HY HT
    unfold Thr at ht
    rcases hy with rfl | rfl | rfl
    all_goals rcases hz with rfl | rfl | rfl
    all_goals first
      | (exfalso; revert ht; decide)
      | skip
    all_goals
      clear ht
      go_wp2_with fail
      refine (k7.out _ HCw.out).mono ?_
      clear HCw
      rintro e Wk17 ⟨rfl, hC7⟩
      have HCw : Hid (C Wk17) := hC7
      clear hC7
      go_wp2
      go_ret
      exact ⟨rfl, CE.out _ HCw.out⟩
  · obtain ⟨c0, c1, c2, c3, c4, c5⟩ := N1.out W HCw.out
    simp only [Nat.zero_add] at c1 c2 c3 c4 c5
    obtain ⟨e0, e1, e2, e3, e4, e5⟩ := N2.out W HCw.out
    simp only [Nat.zero_add] at e1 e2 e3 e4 e5
    go_wp2_with fail
    refine (k4.out _ HCw.out).mono ?_
    clear HCw c0 c1 c2 c3 c4 c5 e0 e1 e2 e3 e4 e5
    rintro e Wk14 ⟨rfl, hC7⟩
    have HCw : Hid (C Wk14) := hC7
    clear hC7
    obtain ⟨c0, c1, c2, c3, c4, c5⟩ := N1.out Wk14 HCw.out
    simp only [Nat.zero_add] at c1 c2 c3 c4 c5
    obtain ⟨e0, e1, e2, e3, e4, e5⟩ := N2.out Wk14 HCw.out
    simp only [Nat.zero_add] at e1 e2 e3 e4 e5
    go_wp2_with fail
    refine (k5.out _ HCw.out).mono ?_
    clear HCw c0 c1 c2 c3 c4 c5 e0 e1 e2 e3 e4 e5
    rintro e Wk15 ⟨rfl, hC7⟩
    have HCw : Hid (C Wk15) := hC7
    clear hC7
    obtain ⟨c0, c1, c2, c3, c4, c5⟩ := N1.out Wk15 HCw.out
    simp only [Nat.zero_add] at c1 c2 c3 c4 c5
    go_wp2_with fail
    refine (k6.out _ HCw.out).mono ?_
    clear HCw c0 c1 c2 c3 c4 c5
    rintro e Wk16 ⟨rfl, hC7⟩
    have HCw : Hid (C Wk16) := hC7
    clear hC7
    obtain ⟨hy, hz⟩ := HY.out
    have ht := HT.out
    clear HY HT
    unfold Thr at ht
    rcases hy with rfl | rfl | rfl
    all_goals rcases hz with rfl | rfl | rfl
    all_goals first
      | (exfalso; revert ht; decide)
      | skip
    all_goals
      clear ht
      go_wp2_with fail
      refine (k7.out _ HCw.out).mono ?_
      clear HCw
      rintro e Wk17 ⟨rfl, hC7⟩
      have HCw : Hid (C Wk17) := hC7
      clear hC7
      go_wp2
      go_ret
      exact ⟨rfl, CE.out _ HCw.out⟩
  · obtain ⟨c0, c1, c2, c3, c4, c5⟩ := N1.out W HCw.out
    simp only [Nat.zero_add] at c1 c2 c3 c4 c5
    obtain ⟨e0, e1, e2, e3, e4, e5⟩ := N2.out W HCw.out
    simp only [Nat.zero_add] at e1 e2 e3 e4 e5
    go_wp2_with fail
    refine (k4.out _ HCw.out).mono ?_
    clear HCw c0 c1 c2 c3 c4 c5 e0 e1 e2 e3 e4 e5
    rintro e Wk14 ⟨rfl, hC7⟩
    have HCw : Hid (C Wk14) := hC7
    clear hC7
    obtain ⟨c0, c1, c2, c3, c4, c5⟩ := N1.out Wk14 HCw.out
    simp only [Nat.zero_add] at c1 c2 c3 c4 c5
    obtain ⟨e0, e1, e2, e3, e4, e5⟩ := N2.out Wk14 HCw.out
    simp only [Nat.zero_add] at e1 e2 e3 e4 e5
    go_wp2_with fail
    refine (k5.out _ HCw.out).mono ?_
    clear HCw c0 c1 c2 c3 c4 c5 e0 e1 e2 e3 e4 e5
    rintro e Wk15 ⟨rfl, hC7⟩
    have HCw : Hid (C Wk15) := hC7
    clear hC7
    obtain ⟨c0, c1, c2, c3, c4, c5⟩ := N1.out Wk15 HCw.out
    simp only [Nat.zero_add] at c1 c2 c3 c4 c5
    go_wp2_with fail
    refine (k6.out _ HCw.out).mono ?_
    clear HCw c0 c1 c2 c3 c4 c5
    rintro e Wk16 ⟨rfl, hC7⟩
    have HCw : Hid (C Wk16) := hC7
    clear hC7
    go_wp2_with fail
    refine (k7.out _ HCw.out).mono ?_
    clear HCw
    rintro e Wk17 ⟨rfl, hC7⟩
    have HCw : Hid (C Wk17) := hC7
    clear hC7
    go_wp2
    go_ret
    exact ⟨rfl, CE.out _ HCw.out⟩
end Go.Proofs.Ytiddlpjnfophhaa
