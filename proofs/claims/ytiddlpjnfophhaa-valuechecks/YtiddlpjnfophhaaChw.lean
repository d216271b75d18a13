/-
  ValueChecks' walk.
-/
import Derived.Test.YtiddlpjnfophhaaOws
import Derived.Test.YtiddlpjnfophhaaClo
namespace Go.Proofs.Ytiddlpjnfophhaa
open Go.RowKit
set_option linter.unusedVariables false
theorem row1_at {p : Vt} {na : Option Addr} {nc : Nat} {ka : Option Addr} {kc : Nat} {w : World} {T : TypeId} (hv : Vl w p na nc ka kc) : At (w.alloc (.cells #[.int .i64 p.1.k, .int .i64 p.1.n, .int .i64 p.1.s, .string p.1.t, .slice na p.1.ns.length nc, .slice ka p.2.list.length kc] T)) (.cons p.1 p.2 .nil) w.heap.size 0 := by
  have hb : Below w.heap.size w (w.alloc (.cells #[.int .i64 p.1.k, .int .i64 p.1.n, .int .i64 p.1.s, .string p.1.t, .slice na p.1.ns.length nc, .slice ka p.2.list.length kc] T)) := (Below.refl _ _).alloc (Nat.le_refl _) _
  refine (at_one (na := na) (nc := nc) (ka := ka) (kc := kc) ?_ (hv.below hb) trivial)
  all_goals
    constructor <;> simp [World.cell?_alloc_new]
theorem wt_ws (f : Fo) : f.wt ≤ f.ws := by
  induction f with
  | nil => exact Nat.le_refl _
  | cons h k r ihk ihr => simp only [Fo.wt, Fo.ws, wsH]; omega
set_option maxRecDepth 8000 in
set_option maxHeartbeats 1000000 in
theorem checks_walk (p : Vt) (hwf : WfV p) (na : Option Addr) (nc : Nat) (ka : Option Addr) (kc : Nat) (w : World) (hv : Vl w p na nc ka kc) :
    Calls Try.prog 3 #[.agg #[.int .i64 p.1.k, .int .i64 p.1.n, .int .i64 p.1.s, .string p.1.t, .slice na p.1.ns.length nc, .slice ka p.2.list.length kc]] w fun e w' => e = .returned (.bool true) ∧ Below w.heap.size w w' := by
  obtain ⟨w1, HW1⟩ : ∃ w1, Hid ((w.alloc (.cells #[.int .i64 p.1.k, .int .i64 p.1.n, .int .i64 p.1.s, .string p.1.t, .slice na p.1.ns.length nc, .slice ka p.2.list.length kc] 25)) = w1) := ⟨_, rfl⟩
  have hsz : w1.heap.size = w.heap.size + 1 := by rw [← HW1.out]; simp
  have HC : Hid (∀ W, Below w1.heap.size w1 W → Below w.heap.size w W ∧ Nd W (w.heap.size) 0 p.1 na nc ka p.2.list.length kc) := fun W hb => by
    rw [← HW1.out] at hb
    have d0 := box_nd hb
    have f0 := box_below _ hb
    exact ⟨f0, d0⟩
  obtain ⟨C, hC⟩ : ∃ C : World → Prop, C = fun W => Below w1.heap.size w1 W := ⟨_, rfl⟩
  have b0 : Below w.heap.size w w1 := (HC.out w1 (Below.refl _ _)).1
  have CD : Hid (∀ W, C W → C { W with drawn := W.drawn + 1 }) := fun W h => by rw [hC] at h ⊢; exact h.drew
  have CA : Hid (∀ W o, C W → C (W.alloc o)) := fun W o h => by rw [hC] at h ⊢; exact h.alloc h.size _
  have CB : Hid (∀ W W', C W → Below W.heap.size W W' → C W') := fun W W' h hb => by rw [hC] at h ⊢; exact h.trans (hb.mono h.size)
  have CE : Hid (∀ W, C W → Below w.heap.size w W) := fun W h => by rw [hC] at h; exact b0.trans (h.mono b0.size)
  have HCw : Hid (C w1) := by rw [hC]; exact Below.refl _ _
  have N1 : Hid (∀ W, C W → Nd W (w.heap.size) 0 p.1 na nc ka p.2.list.length kc) := fun W h => by rw [hC] at h; exact (HC.out W h).2
  have V1 : Hid (∀ W, C W → Vl W p na nc ka kc) := fun W h => by rw [hC] at h; exact (hv.below b0).below h
  have hkl := hwf.2.1
  have hCp : ∀ p : Prop, (∀ W, C W → p) ↔ p := fun p => ⟨fun h => h _ HCw.out, fun h _ _ => h⟩
  have hH : Hid (Calls Try.prog 7 #[.slice (some ⟨w.heap.size + 1, 0, none⟩) 1 1] (w1.alloc (.cells #[.int .i64 p.1.k, .int .i64 p.1.n, .int .i64 p.1.s, .string p.1.t, .slice na p.1.ns.length nc, .slice ka p.2.list.length kc] 25)) fun e w' => ∃ t, e = .returned (.bool t) ∧ Hid ((t = false → ws p ≤ 2500) ∧ C w')) := by
    have h := (heavy_any (.cons p.1 p.2 .nil) ⟨hwf, trivial⟩ w1.heap.size 0 1 1 rfl (by omega) _ (row1_at (T := 25) (V1.out w1 HCw.out))).mono (R' := fun e w' => ∃ t, e = .returned (.bool t) ∧ Hid ((t = false → ws p ≤ 2500) ∧ C w')) fun e w' ⟨t, he, hh⟩ => ⟨t, he, fun e => by have := hh.out.1 e; simpa [Fo.ws, ws] using this, CB.out _ _ (CA.out _ _ HCw.out) hh.out.2⟩
    rw [hsz] at h
    exact h
  have HWf : Hid (WfV p) := hwf
  have HVp : Hid (∀ W, C W → Vl W p na nc ka kc) := V1.out
  clear hC HC b0 hwf hv
  clear hsz
  go_enter Try.func3, Try.ntmps3
  go_wp2_with fail
  generalize hWW : World.alloc w _ = W9
  obtain rfl : w1 = W9 := by rw [← hWW, ← HW1.out]
  clear hWW HW1
  refine hH.out.mono ?_
  clear HCw hH
  rintro e W3 ⟨t, rfl, H3⟩
  have HCw : Hid (C W3) := H3.out.2
  cases t
  case true =>
    go_wp2
    go_ret
    exact ⟨rfl, CE.out _ HCw.out⟩
  have hw5 : ws p ≤ 2500 := H3.out.1 rfl
  have HWs : Hid (ws p ≤ 2500) := hw5
  have hwt : wt p ≤ 1000000 := by have := wt_ws p.2; simp only [wt, ws, wsH] at *; omega
  have HWt : Hid (wt p ≤ 1000000) := hwt
  clear hw5 hwt H3
  obtain ⟨c0, c1, c2, c3, c4, c5⟩ := N1.out W3 HCw.out
  simp only [Nat.zero_add] at c1 c2 c3 c4 c5
  have HK := clone_any _ p (Nat.le_refl _) HWf.out (by have := HWs.out; omega) na nc ka kc W3 (V1.out _ HCw.out)
  go_wp2_with fail
  refine HK.mono ?_
  clear HK c0 c1 c2 c3 c4 c5
  rintro e W4 ⟨na5, nc5, ka5, kc5, rfl, H5⟩
  obtain ⟨W5, HW5⟩ : ∃ W5, Hid (W4.alloc (.cells #[.int .i64 p.1.k, .int .i64 p.1.n, .int .i64 p.1.s, .string p.1.t, .slice na5 p.1.ns.length nc5, .slice ka5 p.2.list.length kc5] 25) = W5) := ⟨_, rfl⟩
  have HF : Hid (C W4 ∧ Vl W4 p na5 nc5 ka5 kc5) := by
    obtain ⟨L, y1, _, _, y4⟩ := H5.out
    exact ⟨CB.out _ _ HCw.out y4, y1.vl⟩
  have b5 : Below W4.heap.size W4 W5 := by rw [← HW5.out]; exact (Below.refl _ _).alloc (Nat.le_refl _) _
  clear HCw
  have HCw : Hid (C W5) := CB.out _ _ HF.out.1 b5
  obtain ⟨D, hD⟩ : ∃ D : World → Prop, D = fun W => Below W5.heap.size W5 W := ⟨_, rfl⟩
  have DC : Hid (∀ W, D W → C W) := fun W h => by rw [hD] at h; exact CB.out _ _ HCw.out h
  have DD : Hid (∀ W, D W → D { W with drawn := W.drawn + 1 }) := fun W h => by rw [hD] at h ⊢; exact h.drew
  have DB : Hid (∀ W W', D W → Below W.heap.size W W' → D W') := fun W W' h hb => by rw [hD] at h ⊢; exact h.trans (hb.mono h.size)
  have HDw : Hid (D W5) := by rw [hD]; exact Below.refl _ _
  have N3 : Hid (∀ W, D W → Nd W W4.heap.size 0 p.1 na5 nc5 ka5 p.2.list.length kc5) := fun W h => by
    rw [hD] at h
    rw [← HW5.out] at h
    exact box_nd h
  have V3 : Hid (∀ W, D W → Vl W p na5 nc5 ka5 kc5) := fun W h => by rw [hD] at h; exact (HF.out.2.below b5).below h
  have M1 : Hid (∀ W, D W → Nd W w.heap.size 0 p.1 na nc ka p.2.list.length kc) := fun W h => N1.out W (DC.out W h)
  have U1 : Hid (∀ W, D W → Vl W p na nc ka kc) := fun W h => V1.out W (DC.out W h)
  have DE : Hid (∀ W, D W → Below w.heap.size w W) := fun W h => CE.out W (DC.out W h)
  have hDp : ∀ p : Prop, (∀ W, D W → p) ↔ p := fun p => ⟨fun h => h _ HDw.out, fun h _ _ => h⟩
  have k1 : Hid (∀ W, D W → Calls Try.prog 9 #[.agg #[.int .i64 p.1.k, .int .i64 p.1.n, .int .i64 p.1.s, .string p.1.t, .slice na5 p.1.ns.length nc5, .slice ka5 p.2.list.length kc5]] W fun e w' => e = .returned (.tuple #[.int .i64 (sizN p), .int .i64 (sizD p)]) ∧ D w') := fun W hW => (vSize_any p HWf.out HWt.out na5 nc5 ka5 kc5 W (V3.out W hW)).mono fun e w' ⟨he, hb⟩ => ⟨he, DB.out _ _ hW hb⟩
  have k2 : Hid (∀ W, D W → Calls Try.prog 10 #[.agg #[.int .i64 p.1.k, .int .i64 p.1.n, .int .i64 p.1.s, .string p.1.t, .slice na p.1.ns.length nc, .slice ka p.2.list.length kc]] W fun e w' => e = .returned (.tuple #[.int .i64 (sizN p), .int .i64 (sizD p)]) ∧ D w') := fun W hW => (rSize_any p HWf.out HWt.out na nc ka kc W (U1.out W hW)).mono fun e w' ⟨he, hb⟩ => ⟨he, DB.out _ _ hW hb⟩
  have k3 : Hid (∀ W, D W → Calls Try.prog 11 #[.agg #[.int .i64 p.1.k, .int .i64 p.1.n, .int .i64 p.1.s, .string p.1.t, .slice na5 p.1.ns.length nc5, .slice ka5 p.2.list.length kc5]] W fun e w' => e = .returned (.int .i64 (chkV p 1)) ∧ D w') := fun W hW => (vCheck_any p HWf.out na5 nc5 ka5 kc5 W (V3.out W hW)).mono fun e w' ⟨he, hb⟩ => ⟨he, DB.out _ _ hW hb⟩
  have k4 : Hid (∀ W, D W → Calls Try.prog 12 #[.agg #[.int .i64 p.1.k, .int .i64 p.1.n, .int .i64 p.1.s, .string p.1.t, .slice na p.1.ns.length nc, .slice ka p.2.list.length kc]] W fun e w' => e = .returned (.int .i64 (chkV p 1)) ∧ D w') := fun W hW => (rCheck_any p HWf.out na nc ka kc W (U1.out W hW)).mono fun e w' ⟨he, hb⟩ => ⟨he, DB.out _ _ hW hb⟩
  have k5 : Hid (∀ W, D W → Calls Try.prog 13 #[.agg #[.int .i64 p.1.k, .int .i64 p.1.n, .int .i64 p.1.s, .string p.1.t, .slice na5 p.1.ns.length nc5, .slice ka5 p.2.list.length kc5], .agg #[.int .i64 p.1.k, .int .i64 p.1.n, .int .i64 p.1.s, .string p.1.t, .slice na p.1.ns.length nc, .slice ka p.2.list.length kc]] W fun e w' => e = .returned (.bool true) ∧ D w') := fun W hW => (equal_any _ p (Nat.le_refl _) HWf.out p HWf.out na5 nc5 ka5 kc5 na nc ka kc W (V3.out W hW) (U1.out W hW)).mono fun e w' ⟨t, he, hb⟩ => ⟨by rw [he, hb.out.1.2 rfl], DB.out _ _ hW hb.out.2⟩
  have k6 : Hid (∀ W, D W → Calls Try.prog 14 #[] W fun e w' => e = .returned (.bool true) ∧ D w') := fun W hW => (known_any W).mono fun e w' ⟨he, hb⟩ => ⟨he, DB.out _ _ hW hb⟩
  generalize sizN p = SN at *
  generalize sizD p = SD at *
  generalize chkV p 1 = E at *
  clear hD b5 HF HCw H5 HVp V1 N1 DC CA CB CD CE hCp
  go_wp2_with fail
  generalize hWW : World.alloc W4 _ = W9
  obtain rfl : W5 = W9 := by rw [← hWW, ← HW5.out]
  clear hWW HW5
  refine (k1.out _ HDw.out).mono ?_
  clear HDw
  rintro e W6 ⟨rfl, hC7⟩
  have HDw : Hid (D W6) := hC7
  clear hC7
  obtain ⟨c0, c1, c2, c3, c4, c5⟩ := M1.out W6 HDw.out
  simp only [Nat.zero_add] at c1 c2 c3 c4 c5
  go_wp2_with fail
  refine (k2.out _ HDw.out).mono ?_
  clear HDw c0 c1 c2 c3 c4 c5
  rintro e W7 ⟨rfl, hC7⟩
  have HDw : Hid (D W7) := hC7
  clear hC7
  go_wp2
  refine q_region (C := D) (by kernel_rfl) (by kernel_rfl) (DD.out _ HDw.out) ?_
  repeat (first
    | go_big_quiet_skip
    | (go_big_quiet_want
       first
       | (refine q_val (.tmp 1) rfl (w.heap.size) 0 rfl _ _ _ _ _ _ M1.out ?_
          simp only [Act.put, List.setIfInBounds_toArray, List.set_cons_zero, List.set_cons_succ]
          go_big_quiet_on)
       | (refine q_val (.tmp 3) rfl (W4.heap.size) 0 rfl _ _ _ _ _ _ N3.out ?_
          simp only [Act.put, List.setIfInBounds_toArray, List.set_cons_zero, List.set_cons_succ]
          go_big_quiet_on)
       | (go_big_quiet_op
          first
          | go_big_quiet_on
          | (apply Exists.intro
             refine ⟨?_, ?_⟩
             · first
               | with_reducible exact k3.out
               | with_reducible exact k4.out
               | with_reducible exact k5.out
               | with_reducible exact k6.out
             go_big_quiet_on))))
  refine wpQuiet_nil ?_
  clear HDw
  intro W hW
  have HDw : Hid (D W) := hW
  clear hW
  go_wp2
  go_ret
  exact ⟨rfl, DE.out _ HDw.out⟩
end Go.Proofs.Ytiddlpjnfophhaa
