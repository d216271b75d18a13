/-
  ValueOrders' walk.
-/
import Derived.Test.YtiddlpjnfophhaaKno
namespace Go.Proofs.Ytiddlpjnfophhaa
open Go.RowKit
set_option linter.unusedVariables false
theorem at_one {w : World} {b o : Nat} {p : Vt} {r : Fo} {na : Option Addr} {nc : Nat} {ka : Option Addr} {kc : Nat} (h : Nd w b o p.1 na nc ka p.2.list.length kc) (hv : Vl w p na nc ka kc) (hr : At w r b (o + 6)) : At w (.cons p.1 p.2 r) b o :=
  ⟨⟨na, nc, ka, kc, h, hv.nms, hv.nc, hv.slc, hv.kc⟩, hr⟩
theorem two_at {p q : Vt} {na : Option Addr} {nc : Nat} {ka : Option Addr} {kc : Nat} {na2 : Option Addr} {nc2 : Nat} {ka2 : Option Addr} {kc2 : Nat} {w : World} {T : TypeId} (hv : Vl w p na nc ka kc) (hv2 : Vl w q na2 nc2 ka2 kc2) : At (w.alloc (.cells #[.int .i64 p.1.k, .int .i64 p.1.n, .int .i64 p.1.s, .string p.1.t, .slice na p.1.ns.length nc, .slice ka p.2.list.length kc, .int .i64 q.1.k, .int .i64 q.1.n, .int .i64 q.1.s, .string q.1.t, .slice na2 q.1.ns.length nc2, .slice ka2 q.2.list.length kc2] T)) (.cons p.1 p.2 (.cons q.1 q.2 .nil)) w.heap.size 0 := by
  have hb : Below w.heap.size w (w.alloc (.cells #[.int .i64 p.1.k, .int .i64 p.1.n, .int .i64 p.1.s, .string p.1.t, .slice na p.1.ns.length nc, .slice ka p.2.list.length kc, .int .i64 q.1.k, .int .i64 q.1.n, .int .i64 q.1.s, .string q.1.t, .slice na2 q.1.ns.length nc2, .slice ka2 q.2.list.length kc2] T)) := (Below.refl _ _).alloc (Nat.le_refl _) _
  refine at_one (na := na) (nc := nc) (ka := ka) (kc := kc) ?_ (hv.below hb) (at_one (na := na2) (nc := nc2) (ka := ka2) (kc := kc2) ?_ (hv2.below hb) trivial)
  all_goals
    constructor <;> simp [World.cell?_alloc_new]
set_option maxRecDepth 8000 in
set_option maxHeartbeats 4000000 in
theorem orders_walk (p q : Vt) (hwf : WfV p) (hwq : WfV q) (na : Option Addr) (nc : Nat) (ka : Option Addr) (kc : Nat) (na2 : Option Addr) (nc2 : Nat) (ka2 : Option Addr) (kc2 : Nat) (w : World) (hv : Vl w p na nc ka kc) (hv2 : Vl w q na2 nc2 ka2 kc2) :
    Calls Try.prog 4 #[.agg #[.int .i64 p.1.k, .int .i64 p.1.n, .int .i64 p.1.s, .string p.1.t, .slice na p.1.ns.length nc, .slice ka p.2.list.length kc], .agg #[.int .i64 q.1.k, .int .i64 q.1.n, .int .i64 q.1.s, .string q.1.t, .slice na2 q.1.ns.length nc2, .slice ka2 q.2.list.length kc2]] w fun e w' => e = .returned (.bool true) ∧ Below w.heap.size w w' := by
  obtain ⟨w1, HW1⟩ : ∃ w1, Hid (((w.alloc (.cells #[.int .i64 p.1.k, .int .i64 p.1.n, .int .i64 p.1.s, .string p.1.t, .slice na p.1.ns.length nc, .slice ka p.2.list.length kc] 25)).alloc (.cells #[.int .i64 q.1.k, .int .i64 q.1.n, .int .i64 q.1.s, .string q.1.t, .slice na2 q.1.ns.length nc2, .slice ka2 q.2.list.length kc2] 25)) = w1) := ⟨_, rfl⟩
  have b0 : Below w.heap.size w w1 := by rw [← HW1.out]; exact ((Below.refl _ _).alloc (Nat.le_refl _) _).alloc (by simp) _
  have HC : Hid (∀ W, Below w1.heap.size w1 W → Nd W w.heap.size 0 p.1 na nc ka p.2.list.length kc ∧ Nd W (w.heap.size + 1) 0 q.1 na2 nc2 ka2 q.2.list.length kc2) := fun W hb => by
    rw [← HW1.out] at hb
    have e1 : Below (w.alloc (.cells #[.int .i64 p.1.k, .int .i64 p.1.n, .int .i64 p.1.s, .string p.1.t, .slice na p.1.ns.length nc, .slice ka p.2.list.length kc] 25)).heap.size (w.alloc (.cells #[.int .i64 p.1.k, .int .i64 p.1.n, .int .i64 p.1.s, .string p.1.t, .slice na p.1.ns.length nc, .slice ka p.2.list.length kc] 25)) W := ((Below.refl _ _).alloc (Nat.le_refl _) _).trans (hb.mono (by simp))
    have g2 := box_nd hb
    have e2 : (w.alloc (.cells #[.int .i64 p.1.k, .int .i64 p.1.n, .int .i64 p.1.s, .string p.1.t, .slice na p.1.ns.length nc, .slice ka p.2.list.length kc] 25)).heap.size = w.heap.size + 1 := by simp
    rw [e2] at g2
    exact ⟨box_nd e1, g2⟩
  have v1 := hv.below b0
  have v2 := hv2.below b0
  obtain ⟨C, hC⟩ : ∃ C : World → Prop, C = fun W => Below w1.heap.size w1 W := ⟨_, rfl⟩
  have CD : Hid (∀ W, C W → C { W with drawn := W.drawn + 1 }) := fun W h => by rw [hC] at h ⊢; exact h.drew
  have CA : Hid (∀ W o, C W → C (W.alloc o)) := fun W o h => by rw [hC] at h ⊢; exact h.alloc h.size _
  have CB : Hid (∀ W W', C W → Below W.heap.size W W' → C W') := fun W W' h hb => by rw [hC] at h ⊢; exact h.trans (hb.mono h.size)
  have CE : Hid (∀ W, C W → Below w.heap.size w W) := fun W h => by rw [hC] at h; exact b0.trans (h.mono b0.size)
  have HCw : Hid (C w1) := by rw [hC]; exact Below.refl _ _
  have N1 : Hid (∀ W, C W → Nd W w.heap.size 0 p.1 na nc ka p.2.list.length kc) := fun W h => by rw [hC] at h; exact (HC.out W h).1
  have N2 : Hid (∀ W, C W → Nd W (w.heap.size + 1) 0 q.1 na2 nc2 ka2 q.2.list.length kc2) := fun W h => by rw [hC] at h; exact (HC.out W h).2
  have V1 : Hid (∀ W, C W → Vl W p na nc ka kc) := fun W h => by rw [hC] at h; exact v1.below h
  have V2 : Hid (∀ W, C W → Vl W q na2 nc2 ka2 kc2) := fun W h => by rw [hC] at h; exact v2.below h
  have hCp : ∀ p : Prop, (∀ W, C W → p) ↔ p := fun p => ⟨fun h => h _ HCw.out, fun h _ _ => h⟩
  have hkl := hwf.2.1
  have hkl2 := hwq.2.1
  have HW : Hid (WfV p) := hwf
  have HWq : Hid (WfV q) := hwq
  have hsz : w1.heap.size = w.heap.size + 1 + 1 := by rw [← HW1.out]; simp
  have hH : Hid (Calls Try.prog 7 #[.slice (some ⟨w.heap.size + 1 + 1, 0, none⟩) 2 2] (w1.alloc (.cells #[.int .i64 p.1.k, .int .i64 p.1.n, .int .i64 p.1.s, .string p.1.t, .slice na p.1.ns.length nc, .slice ka p.2.list.length kc, .int .i64 q.1.k, .int .i64 q.1.n, .int .i64 q.1.s, .string q.1.t, .slice na2 q.1.ns.length nc2, .slice ka2 q.2.list.length kc2] 25)) fun e w' => ∃ t, e = .returned (.bool t) ∧ Hid (C w')) := by
    have h := (heavy_any (.cons p.1 p.2 (.cons q.1 q.2 .nil)) ⟨hwf, hwq, trivial⟩ w1.heap.size 0 2 2 rfl (by omega) _ (two_at (T := 25) (V1.out w1 HCw.out) (V2.out w1 HCw.out))).mono (R' := fun e w' => ∃ t, e = .returned (.bool t) ∧ Hid (C w')) fun e w' ⟨t, he, hh⟩ => ⟨t, he, CB.out _ _ (CA.out _ _ HCw.out) hh.out.2⟩
    rw [hsz] at h
    exact h
  clear hsz
  have k1 : Hid (∀ W, C W → Calls Try.prog 15 #[.agg #[.int .i64 p.1.k, .int .i64 p.1.n, .int .i64 p.1.s, .string p.1.t, .slice na p.1.ns.length nc, .slice ka p.2.list.length kc], .agg #[.int .i64 q.1.k, .int .i64 q.1.n, .int .i64 q.1.s, .string q.1.t, .slice na2 q.1.ns.length nc2, .slice ka2 q.2.list.length kc2]] W fun e w' => e = .returned (.int .i64 (cmpC p q)) ∧ C w') := fun W hW => (vCompare p q hwf hwq na nc ka kc na2 nc2 ka2 kc2 W (V1.out W hW) (V2.out W hW)).mono fun e w' ⟨he, hb⟩ => ⟨he, CB.out _ _ hW hb⟩
  have k2 : Hid (∀ W, C W → Calls Try.prog 16 #[.agg #[.int .i64 p.1.k, .int .i64 p.1.n, .int .i64 p.1.s, .string p.1.t, .slice na p.1.ns.length nc, .slice ka p.2.list.length kc], .agg #[.int .i64 q.1.k, .int .i64 q.1.n, .int .i64 q.1.s, .string q.1.t, .slice na2 q.1.ns.length nc2, .slice ka2 q.2.list.length kc2]] W fun e w' => e = .returned (.int .i64 (cmpC p q)) ∧ C w') := fun W hW => (rCompare p q hwf hwq na nc ka kc na2 nc2 ka2 kc2 W (V1.out W hW) (V2.out W hW)).mono fun e w' ⟨he, hb⟩ => ⟨he, CB.out _ _ hW hb⟩
  have k3 : Hid (∀ W, C W → Calls Try.prog 17 #[.agg #[.int .i64 p.1.k, .int .i64 p.1.n, .int .i64 p.1.s, .string p.1.t, .slice na p.1.ns.length nc, .slice ka p.2.list.length kc], .agg #[.int .i64 q.1.k, .int .i64 q.1.n, .int .i64 q.1.s, .string q.1.t, .slice na2 q.1.ns.length nc2, .slice ka2 q.2.list.length kc2]] W fun e w' => e = .returned (.bool (samC p q)) ∧ C w') := fun W hW => (vSame p q hwf hwq na nc ka kc na2 nc2 ka2 kc2 W (V1.out W hW) (V2.out W hW)).mono fun e w' ⟨he, hb⟩ => ⟨he, CB.out _ _ hW hb⟩
  have k4 : Hid (∀ W, C W → Calls Try.prog 18 #[.agg #[.int .i64 p.1.k, .int .i64 p.1.n, .int .i64 p.1.s, .string p.1.t, .slice na p.1.ns.length nc, .slice ka p.2.list.length kc], .agg #[.int .i64 q.1.k, .int .i64 q.1.n, .int .i64 q.1.s, .string q.1.t, .slice na2 q.1.ns.length nc2, .slice ka2 q.2.list.length kc2]] W fun e w' => e = .returned (.bool (samC p q)) ∧ C w') := fun W hW => (rSame p q hwf hwq na nc ka kc na2 nc2 ka2 kc2 W (V1.out W hW) (V2.out W hW)).mono fun e w' ⟨he, hb⟩ => ⟨he, CB.out _ _ hW hb⟩
  have k5 : Hid (∀ W, C W → Calls Try.prog 14 #[] W fun e w' => e = .returned (.bool true) ∧ C w') := fun W hW => (known_any W).mono fun e w' ⟨he, hb⟩ => ⟨he, CB.out _ _ hW hb⟩
  generalize cmpC p q = R at *
  generalize samC p q = S at *
  clear hC HC b0 v1 v2 hwf hwq hv hv2
  go_enter Try.func4, Try.ntmps4
  go_wp2_with fail
  generalize hWW : World.alloc (World.alloc w _) _ = W9
  obtain rfl : w1 = W9 := by rw [← hWW, ← HW1.out]
  clear hWW HW1
  refine hH.out.mono ?_
  clear HCw
  rintro e W3 ⟨t, rfl, HCw⟩
  cases t
  case true =>
    go_wp2
    go_ret
    exact ⟨rfl, CE.out _ HCw.out⟩
  go_wp2
  refine q_region (C := C) (by kernel_rfl) (by kernel_rfl) (CD.out _ HCw.out) ?_
  repeat (first
    | go_big_quiet_skip
    | (go_big_quiet_want
       first
       | (refine q_val (.tmp 2) rfl (w.heap.size) 0 rfl _ _ _ _ _ _ N1.out ?_
          simp only [Act.put, List.setIfInBounds_toArray, List.set_cons_zero, List.set_cons_succ]
          go_big_quiet_on)
       | (refine q_val (.tmp 3) rfl (w.heap.size + 1) 0 rfl _ _ _ _ _ _ N2.out ?_
          simp only [Act.put, List.setIfInBounds_toArray, List.set_cons_zero, List.set_cons_succ]
          go_big_quiet_on)
       | (go_big_quiet_op
          first
          | go_big_quiet_on
          | (apply Exists.intro
             refine ⟨?_, ?_⟩
             · first
               | exact k1.out
               | exact k2.out
               | exact k3.out
               | exact k4.out
               | exact k5.out
             go_big_quiet_on))))
  refine wpQuiet_nil ?_
  clear HCw
  intro W hW
  have HCw : Hid (C W) := hW
  clear hW
  go_wp2
  go_ret
  exact ⟨rfl, CE.out _ HCw.out⟩
end Go.Proofs.Ytiddlpjnfophhaa
