/-
  The document's own With.
-/
import Derived.Test.YtiddlpjnfophhaaLay
import Derived.Test.YtiddlpjnfophhaaOrw
namespace Go.Proofs.Ytiddlpjnfophhaa
open Go.RowKit
set_option linter.unusedVariables false
theorem enters8 : ∀ (args : Array Value) (w : World), (callFunc 8 args).run Try.prog w = .ok (.enter 8 args) w := enters Try.func8 (by kernel_rfl) rfl
theorem enters36 : ∀ (args : Array Value) (w : World), (callFunc 36 args).run Try.prog w = .ok (.enter 36 args) w := enters Try.func36 (by kernel_rfl) rfl
set_option maxRecDepth 8000 in
set_option maxHeartbeats 1000000 in
theorem rWith (p y : Vt) (name : ByteArray) (hwf : WfV p) (hwy : WfV y) (hws : ws p ≤ 2500) (hwsy : ws y ≤ 2500) (hnm : name.size ≤ 500) (na : Option Addr) (nc : Nat) (ka : Option Addr) (kc : Nat) (na2 : Option Addr) (nc2 : Nat) (ka2 : Option Addr) (kc2 : Nat) (W : World) (hv : Vl W p na nc ka kc) (hv2 : Vl W y na2 nc2 ka2 kc2) :
    Calls Try.prog 22 #[.agg #[.int .i64 p.1.k, .int .i64 p.1.n, .int .i64 p.1.s, .string p.1.t, .slice na p.1.ns.length nc, .slice ka p.2.list.length kc], .string name, .agg #[.int .i64 y.1.k, .int .i64 y.1.n, .int .i64 y.1.s, .string y.1.t, .slice na2 y.1.ns.length nc2, .slice ka2 y.2.list.length kc2]] W fun e w' => ∃ na' nc' ka' kc', e = .returned (.tuple #[.agg #[.int .i64 (wthV p name y).1.k, .int .i64 (wthV p name y).1.n, .int .i64 (wthV p name y).1.s, .string (wthV p name y).1.t, .slice na' (wthV p name y).1.ns.length nc', .slice ka' (wthV p name y).2.list.length kc'], .int .i64 (wthE p name y)]) ∧ Hid (Vl w' (wthV p name y) na' nc' ka' kc' ∧ Below W.heap.size W w') := by
  obtain ⟨W3, HW3⟩ : ∃ W3, Hid (((W.alloc (.cells #[.int .i64 p.1.k, .int .i64 p.1.n, .int .i64 p.1.s, .string p.1.t, .slice na p.1.ns.length nc, .slice ka p.2.list.length kc] 25)).alloc (.cells #[.int .i64 y.1.k, .int .i64 y.1.n, .int .i64 y.1.s, .string y.1.t, .slice na2 y.1.ns.length nc2, .slice ka2 y.2.list.length kc2] 25)).alloc (.cells #[.int .i64 0, .int .i64 0, .int .i64 0, .string ⟨#[]⟩, .slice none 0 0, .slice none 0 0] 25) = W3) := ⟨_, rfl⟩
  have hkl := hwf.2.1
  have hkl2 := hwy.2.1
  have hnl : p.1.ns.length ≤ 2500 := by simp only [ws, wsH] at hws; omega
  have hpl : p.2.list.length ≤ 2500 := by have := len_ws p.2; simp only [ws] at hws; omega
  have hbW : Below W.heap.size W W3 := by rw [← HW3.out]; exact (((Below.refl _ _).alloc (Nat.le_refl _) _).alloc (by simp) _).alloc (by simp; omega) _
  have HB1 : Hid (Blk W3 W.heap.size 25 (six p.1 na nc ka p.2.list.length kc)) := by rw [← HW3.out]; exact ((blk_new W 25 (six p.1 na nc ka p.2.list.length kc)).alloc _).alloc _
  have HB2 : Hid (Blk W3 (W.heap.size + 1) 25 (six y.1 na2 nc2 ka2 y.2.list.length kc2)) := by
    rw [← HW3.out]
    have h := (blk_new (W.alloc (.cells #[.int .i64 p.1.k, .int .i64 p.1.n, .int .i64 p.1.s, .string p.1.t, .slice na p.1.ns.length nc, .slice ka p.2.list.length kc] 25)) 25 (six y.1 na2 nc2 ka2 y.2.list.length kc2)).alloc (.cells #[.int .i64 0, .int .i64 0, .int .i64 0, .string ⟨#[]⟩, .slice none 0 0, .slice none 0 0] 25)
    rw [show (W.alloc (.cells #[.int .i64 p.1.k, .int .i64 p.1.n, .int .i64 p.1.s, .string p.1.t, .slice na p.1.ns.length nc, .slice ka p.2.list.length kc] 25)).heap.size = W.heap.size + 1 by simp] at h
    exact h
  have HB3 : Hid (Blk W3 (W.heap.size + 1 + 1) 25 zer) := by
    rw [← HW3.out]
    have h := blk_new ((W.alloc (.cells #[.int .i64 p.1.k, .int .i64 p.1.n, .int .i64 p.1.s, .string p.1.t, .slice na p.1.ns.length nc, .slice ka p.2.list.length kc] 25)).alloc (.cells #[.int .i64 y.1.k, .int .i64 y.1.n, .int .i64 y.1.s, .string y.1.t, .slice na2 y.1.ns.length nc2, .slice ka2 y.2.list.length kc2] 25)) 25 zer
    rw [show ((W.alloc (.cells #[.int .i64 p.1.k, .int .i64 p.1.n, .int .i64 p.1.s, .string p.1.t, .slice na p.1.ns.length nc, .slice ka p.2.list.length kc] 25)).alloc (.cells #[.int .i64 y.1.k, .int .i64 y.1.n, .int .i64 y.1.s, .string y.1.t, .slice na2 y.1.ns.length nc2, .slice ka2 y.2.list.length kc2] 25)).heap.size = W.heap.size + 1 + 1 by simp] at h
    exact h
  obtain ⟨C, hC⟩ : ∃ C : World → Prop, C = fun W' => Below W3.heap.size W3 W' := ⟨_, rfl⟩
  have CB : Hid (∀ W W', C W → Below W.heap.size W W' → C W') := fun W W' h hb => by rw [hC] at h ⊢; exact h.trans (hb.mono h.size)
  have CX : Hid (∀ W W' B, C W → Below B W W' → W3.heap.size ≤ B → C W') := fun W W' B h hb hB => by rw [hC] at h ⊢; exact h.trans (hb.mono hB)
  have HCw : Hid (C W3) := by rw [hC]; exact Below.refl _ _
  have CE : Hid (∀ W', C W' → Below W.heap.size W W') := fun W' h => by rw [hC] at h; exact hbW.trans (h.mono hbW.size)
  have C1 : Hid (∀ W', C W' → Blk W' W.heap.size 25 (six p.1 na nc ka p.2.list.length kc)) := fun W' h => by rw [hC] at h; exact HB1.out.below h HB1.out.lt
  have C2 : Hid (∀ W', C W' → Blk W' (W.heap.size + 1) 25 (six y.1 na2 nc2 ka2 y.2.list.length kc2)) := fun W' h => by rw [hC] at h; exact HB2.out.below h HB2.out.lt
  have C3 : Hid (∀ W', C W' → Blk W' (W.heap.size + 1 + 1) 25 zer) := fun W' h => by rw [hC] at h; exact HB3.out.below h HB3.out.lt
  have HS3 : Hid (W3.heap.size = W.heap.size + 3) := by have := HW3.out; subst this; show _ = _; simp
  have HSz : Hid (∀ W', C W' → W.heap.size + 3 ≤ W'.heap.size) := fun W' h => by have := (C3.out W' h).lt; show _ ≤ _; omega
  have CV : Hid (∀ W', C W' → Vl W' p na nc ka kc) := fun W' h => hv.below (CE.out W' h)
  have CY : Hid (∀ W', C W' → Vl W' y na2 nc2 ka2 kc2) := fun W' h => hv2.below (CE.out W' h)
  by_cases h1 : chkV p 1 = 0
  case neg =>
    obtain ⟨E, hE⟩ : ∃ E, chkV p 1 = E := ⟨_, rfl⟩
    have HNo : Hid (wthE p name y = E ∧ wthV p name y = nulV) := by
      have e1 : wthE p name y = E := by unfold wthE; rw [if_pos h1, hE]
      exact ⟨e1, by unfold wthV; rw [if_neg (by rw [e1, ← hE]; exact h1)]⟩
    have k1 : Hid (∀ W', C W' → Calls Try.prog 12 #[.agg #[.int .i64 p.1.k, .int .i64 p.1.n, .int .i64 p.1.s, .string p.1.t, .slice na p.1.ns.length nc, .slice ka p.2.list.length kc]] W' fun e w' => e = .returned (.int .i64 E) ∧ C w') := fun W' h => (rCheck_any p hwf na nc ka kc W' (CV.out W' h)).mono fun e w' ⟨he, hb⟩ => ⟨by rw [he, hE], CB.out _ _ h hb⟩
    rw [hE] at h1
    clear hE hC hbW hv hv2 hwf hwy hws hwsy
    go_enter Try.func22, Try.ntmps22
    go_wp2_with fail
    generalize hWW : World.alloc (World.alloc (World.alloc W _) _) _ = W9
    obtain rfl : W3 = W9 := by rw [← hWW, ← HW3.out]
    clear hWW HW3
    refine (k1.out _ HCw.out).mono ?_
    clear HCw
    rintro e W4 ⟨rfl, hC7⟩
    have HCw : Hid (C W4) := hC7
    clear hC7
    have HBz : Hid (Blk W4 (W.heap.size + 1 + 1) 25 zer) := C3.out _ HCw.out
    go_wp2_with (refine st_all rfl 25 (.tmp 6) (.tmp 14) rfl (W.heap.size + 1 + 1) 25 zer zer rfl rfl HBz.out rfl s25 zer_one ?_)
    intro w8 b8 g8
    have HB8 : Hid (Blk w8 (W.heap.size + 1 + 1) 25 zer) := b8
    have HE8 : Hid (Below W.heap.size W w8) := (CE.out _ HCw.out).grown g8 (CE.out _ HCw.out).size (by intro x hx; injection hx with hx; omega)
    clear b8 g8
    go_wp2
    refine bodyPost_ret (res_two rfl _ (W.heap.size + 1 + 1) 25 _ _ rfl HB8.out Try.underlying25 rfl s25) rfl ?_
    have hno := HNo.out
    rw [hno.1, hno.2]
    exact ⟨none, 0, none, 0, rfl, nul_vl _, HE8.out⟩
  have k1 : Hid (∀ W', C W' → Calls Try.prog 12 #[.agg #[.int .i64 p.1.k, .int .i64 p.1.n, .int .i64 p.1.s, .string p.1.t, .slice na p.1.ns.length nc, .slice ka p.2.list.length kc]] W' fun e w' => e = .returned (.int .i64 0) ∧ C w') := fun W' h => (rCheck_any p hwf na nc ka kc W' (CV.out W' h)).mono fun e w' ⟨he, hb⟩ => ⟨by rw [he, h1], CB.out _ _ h hb⟩
  by_cases h9 : p.1.k = 9
  case neg =>
    have HNo : Hid (wthE p name y = 11 ∧ wthV p name y = nulV) := by
      have e1 : wthE p name y = 11 := by unfold wthE; rw [if_neg (by simp [h1]), if_pos h9]
      exact ⟨e1, by unfold wthV; rw [if_neg (by rw [e1]; decide)]⟩
    have t9 : (p.1.k != 9) = true := by simpa using h9
    clear h9 hC hbW hv hv2 hwf hwy hws hwsy h1
    go_enter Try.func22, Try.ntmps22
    go_wp2_with fail
    generalize hWW : World.alloc (World.alloc (World.alloc W _) _) _ = W9
    obtain rfl : W3 = W9 := by rw [← hWW, ← HW3.out]
    clear hWW HW3
    refine (k1.out _ HCw.out).mono ?_
    clear HCw
    rintro e W4 ⟨rfl, hC7⟩
    have HCw : Hid (C W4) := hC7
    clear hC7
    have d0 : W4.cell? ⟨W.heap.size, 0, none⟩ = some (.int .i64 p.1.k) := (C1.out _ HCw.out).cell 0
    have HBz : Hid (Blk W4 (W.heap.size + 1 + 1) 25 zer) := C3.out _ HCw.out
    go_wp2_with (refine st_all rfl 25 (.tmp 6) (.tmp 19) rfl (W.heap.size + 1 + 1) 25 zer zer rfl rfl HBz.out rfl s25 zer_one ?_)
    intro w8 b8 g8
    have HB8 : Hid (Blk w8 (W.heap.size + 1 + 1) 25 zer) := b8
    have HE8 : Hid (Below W.heap.size W w8) := (CE.out _ HCw.out).grown g8 (CE.out _ HCw.out).size (by intro x hx; injection hx with hx; omega)
    clear b8 g8
    go_wp2
    refine bodyPost_ret (res_two rfl _ (W.heap.size + 1 + 1) 25 _ _ rfl HB8.out Try.underlying25 rfl s25) rfl ?_
    have hno := HNo.out
    rw [hno.1, hno.2]
    exact ⟨none, 0, none, 0, rfl, nul_vl _, HE8.out⟩
  have t9 : (p.1.k != 9) = false := by simpa using h9
  by_cases h2 : chkV y 1 = 0
  case neg =>
    obtain ⟨E, hE⟩ : ∃ E, chkV y 1 = E := ⟨_, rfl⟩
    have HNo : Hid (wthE p name y = E ∧ wthV p name y = nulV) := by
      have e1 : wthE p name y = E := by unfold wthE; rw [if_neg (by simp [h1]), if_neg (by simp [h9]), if_pos h2, hE]
      exact ⟨e1, by unfold wthV; rw [if_neg (by rw [e1, ← hE]; exact h2)]⟩
    have k2 : Hid (∀ W', C W' → Calls Try.prog 12 #[.agg #[.int .i64 y.1.k, .int .i64 y.1.n, .int .i64 y.1.s, .string y.1.t, .slice na2 y.1.ns.length nc2, .slice ka2 y.2.list.length kc2]] W' fun e w' => e = .returned (.int .i64 E) ∧ C w') := fun W' h => (rCheck_any y hwy na2 nc2 ka2 kc2 W' (CY.out W' h)).mono fun e w' ⟨he, hb⟩ => ⟨by rw [he, hE], CB.out _ _ h hb⟩
    rw [hE] at h2
    clear hE h9 hC hbW hv hv2 hwf hwy hws hwsy h1
    go_enter Try.func22, Try.ntmps22
    go_wp2_with fail
    generalize hWW : World.alloc (World.alloc (World.alloc W _) _) _ = W9
    obtain rfl : W3 = W9 := by rw [← hWW, ← HW3.out]
    clear hWW HW3
    refine (k1.out _ HCw.out).mono ?_
    clear HCw
    rintro e W4 ⟨rfl, hC7⟩
    have HCw : Hid (C W4) := hC7
    clear hC7
    have d0 : W4.cell? ⟨W.heap.size, 0, none⟩ = some (.int .i64 p.1.k) := (C1.out _ HCw.out).cell 0
    have f0 : W4.cell? ⟨W.heap.size + 1, 0, none⟩ = some (.int .i64 y.1.k) := (C2.out _ HCw.out).cell 0
    have f1 : W4.cell? ⟨W.heap.size + 1, 1, none⟩ = some (.int .i64 y.1.n) := (C2.out _ HCw.out).cell 1
    have f2 : W4.cell? ⟨W.heap.size + 1, 2, none⟩ = some (.int .i64 y.1.s) := (C2.out _ HCw.out).cell 2
    have f3 : W4.cell? ⟨W.heap.size + 1, 3, none⟩ = some (.string y.1.t) := (C2.out _ HCw.out).cell 3
    have f4 : W4.cell? ⟨W.heap.size + 1, 4, none⟩ = some (.slice na2 y.1.ns.length nc2) := (C2.out _ HCw.out).cell 4
    have f5 : W4.cell? ⟨W.heap.size + 1, 5, none⟩ = some (.slice ka2 y.2.list.length kc2) := (C2.out _ HCw.out).cell 5
    go_wp2_with fail
    clear d0 f0 f1 f2 f3 f4 f5
    refine (k2.out _ HCw.out).mono ?_
    clear HCw
    rintro e W5 ⟨rfl, hC7⟩
    have HCw : Hid (C W5) := hC7
    clear hC7
    have HBz : Hid (Blk W5 (W.heap.size + 1 + 1) 25 zer) := C3.out _ HCw.out
    go_wp2_with (refine st_all rfl 25 (.tmp 6) (.tmp 24) rfl (W.heap.size + 1 + 1) 25 zer zer rfl rfl HBz.out rfl s25 zer_one ?_)
    intro w8 b8 g8
    have HB8 : Hid (Blk w8 (W.heap.size + 1 + 1) 25 zer) := b8
    have HE8 : Hid (Below W.heap.size W w8) := (CE.out _ HCw.out).grown g8 (CE.out _ HCw.out).size (by intro x hx; injection hx with hx; omega)
    clear b8 g8
    go_wp2
    refine bodyPost_ret (res_two rfl _ (W.heap.size + 1 + 1) 25 _ _ rfl HB8.out Try.underlying25 rfl s25) rfl ?_
    have hno := HNo.out
    rw [hno.1, hno.2]
    exact ⟨none, 0, none, 0, rfl, nul_vl _, HE8.out⟩
  have k2 : Hid (∀ W', C W' → Calls Try.prog 12 #[.agg #[.int .i64 y.1.k, .int .i64 y.1.n, .int .i64 y.1.s, .string y.1.t, .slice na2 y.1.ns.length nc2, .slice ka2 y.2.list.length kc2]] W' fun e w' => e = .returned (.int .i64 0) ∧ C w') := fun W' h => (rCheck_any y hwy na2 nc2 ka2 kc2 W' (CY.out W' h)).mono fun e w' ⟨he, hb⟩ => ⟨by rw [he, h2], CB.out _ _ h hb⟩
  have HE : Hid (wthE p name y = chkV (layV p name y) 1) := by
    show _ = _
    unfold wthE
    rw [if_neg (by simp [h1]), if_neg (by simp [h9]), if_neg (by simp [h2])]
  have hr := named_of h1 h9
  have HNK : Hid (p.1.ns.length = p.2.list.length) := (good_of h1).ns h9
  have HLW : Hid (WfV (layV p name y)) := lay_wf hwf hwy hnm (by omega) (by omega)
  have K1 : Hid (∀ W', C W' → Calls Try.prog 8 #[.agg #[.int .i64 p.1.k, .int .i64 p.1.n, .int .i64 p.1.s, .string p.1.t, .slice na p.1.ns.length nc, .slice ka p.2.list.length kc]] W' fun e w' => ∃ v, e = .returned v ∧ ∃ na5 nc5 ka5 kc5, v = .agg #[.int .i64 p.1.k, .int .i64 p.1.n, .int .i64 p.1.s, .string p.1.t, .slice na5 p.1.ns.length nc5, .slice ka5 p.2.list.length kc5] ∧ Hid (C w' ∧ Below W'.heap.size W' w' ∧ ∃ L, VlL w' p na5 nc5 ka5 kc5 L ∧ ∀ x ∈ L, W'.heap.size ≤ x ∧ x < w'.heap.size)) := fun W' h => (clone_any _ p (Nat.le_refl _) hwf (by omega) na nc ka kc W' (CV.out W' h)).mono fun e w' ⟨a, b, c, d, he, hh⟩ => by
    obtain ⟨L, y1, y2, y3, y4⟩ := hh.out
    exact ⟨_, he, a, b, c, d, rfl, CB.out _ _ h y4, y4, L, y1, y2⟩
  have K2 : Hid (∀ W', C W' → Calls Try.prog 8 #[.agg #[.int .i64 y.1.k, .int .i64 y.1.n, .int .i64 y.1.s, .string y.1.t, .slice na2 y.1.ns.length nc2, .slice ka2 y.2.list.length kc2]] W' fun e w' => ∃ v, e = .returned v ∧ ∃ na6 nc6 ka6 kc6, v = .agg #[.int .i64 y.1.k, .int .i64 y.1.n, .int .i64 y.1.s, .string y.1.t, .slice na6 y.1.ns.length nc6, .slice ka6 y.2.list.length kc6] ∧ Hid (C w' ∧ Below W'.heap.size W' w' ∧ ∃ L, VlL w' y na6 nc6 ka6 kc6 L ∧ ∀ x ∈ L, W'.heap.size ≤ x ∧ x < w'.heap.size)) := fun W' h => (clone_any _ y (Nat.le_refl _) hwy (by omega) na2 nc2 ka2 kc2 W' (CY.out W' h)).mono fun e w' ⟨a, b, c, d, he, hh⟩ => by
    obtain ⟨L, y1, y2, y3, y4⟩ := hh.out
    exact ⟨_, he, a, b, c, d, rfl, CB.out _ _ h y4, y4, L, y1, y2⟩
  have HWp : Hid (WfV p) := hwf
  have HWy : Hid (WfV y) := hwy
  have HWs : Hid (ws p ≤ 2500 ∧ ws y ≤ 2500) := ⟨hws, hwsy⟩
  have N1 : Hid (∀ W', C W' → Nd W' W.heap.size 0 p.1 na nc ka p.2.list.length kc) := fun W' h => nd_six fun j u hj => by rw [Nat.zero_add, (C1.out W' h).cell]; exact hj
  have N2 : Hid (∀ W', C W' → Nd W' (W.heap.size + 1) 0 y.1 na2 nc2 ka2 y.2.list.length kc2) := fun W' h => nd_six fun j u hj => by rw [Nat.zero_add, (C2.out W' h).cell]; exact hj
  have CD : Hid (∀ W, C W → C { W with drawn := W.drawn + 1 }) := fun W h => by rw [hC] at h ⊢; exact h.drew
  clear h1 h9 h2 hC hbW hv hv2 hwf hwy hws hwsy hr
  go_enter Try.func22, Try.ntmps22
  go_wp2_with fail
  generalize hWW : World.alloc (World.alloc (World.alloc W _) _) _ = W9
  obtain rfl : W3 = W9 := by rw [← hWW, ← HW3.out]
  clear hWW HW3
  refine (k1.out _ HCw.out).mono ?_
  clear HCw
  rintro e W4 ⟨rfl, hC7⟩
  have HCw : Hid (C W4) := hC7
  clear hC7
  have d0 : W4.cell? ⟨W.heap.size, 0, none⟩ = some (.int .i64 p.1.k) := (C1.out _ HCw.out).cell 0
  have f0 : W4.cell? ⟨W.heap.size + 1, 0, none⟩ = some (.int .i64 y.1.k) := (C2.out _ HCw.out).cell 0
  have f1 : W4.cell? ⟨W.heap.size + 1, 1, none⟩ = some (.int .i64 y.1.n) := (C2.out _ HCw.out).cell 1
  have f2 : W4.cell? ⟨W.heap.size + 1, 2, none⟩ = some (.int .i64 y.1.s) := (C2.out _ HCw.out).cell 2
  have f3 : W4.cell? ⟨W.heap.size + 1, 3, none⟩ = some (.string y.1.t) := (C2.out _ HCw.out).cell 3
  have f4 : W4.cell? ⟨W.heap.size + 1, 4, none⟩ = some (.slice na2 y.1.ns.length nc2) := (C2.out _ HCw.out).cell 4
  have f5 : W4.cell? ⟨W.heap.size + 1, 5, none⟩ = some (.slice ka2 y.2.list.length kc2) := (C2.out _ HCw.out).cell 5
  go_wp2_with fail
  clear d0 f0 f1 f2 f3 f4 f5
  refine (k2.out _ HCw.out).mono ?_
  clear HCw
  rintro e W5 ⟨rfl, hC7⟩
  have HCw : Hid (C W5) := hC7
  clear hC7
  go_wp2
  refine region_calm C 7 (by kernel_rfl) ?_
  have hCp : ∀ p : Prop, (∀ W, C W → p) ↔ p := fun p => ⟨fun h => h _ HCw.out, fun h _ _ => h⟩
  have HDx := CD.out _ HCw.out
  generalize ({ W5 with drawn := W5.drawn + 1 } : World) = v0 at *
  have HC0 : Hid (C v0) := HDx
  clear HDx HCw
  refine seg 5 [0, 2, 3] rfl (by kernel_rfl) whole_blind HC0.out (by kernel_rfl) ?_
  change wpQuiet _ _ _ _ (_ :: _ :: _ :: []) _
  repeat (first
    | go_big_quiet_skip
    | (go_big_quiet_want
       first
       | (refine q_val (.tmp 3) rfl W.heap.size 0 rfl _ _ _ _ _ _ N1.out ?_
          simp only [Act.put, List.setIfInBounds_toArray, List.set_cons_zero, List.set_cons_succ]
          go_big_quiet_on)
       | (refine q_val (.tmp 5) rfl (W.heap.size + 1) 0 rfl _ _ _ _ _ _ N2.out ?_
          simp only [Act.put, List.setIfInBounds_toArray, List.set_cons_zero, List.set_cons_succ]
          go_big_quiet_on)
       | (go_big_quiet_op
          go_big_quiet_on)))
  refine wpQuiet_nil ?_
  clear N1 N2 k1 k2 CV CY
  refine two_do (i := 1) (j := 6) 4 rfl (by kernel_rfl) rfl (by rfl) rfl (by rfl) ?_ ?_
  · intro K hK
    refine oper_calls 8 #[.tmp 26] #[25] rfl #[.agg #[.int .i64 p.1.k, .int .i64 p.1.n, .int .i64 p.1.s, .string p.1.t, .slice na p.1.ns.length nc, .slice ka p.2.list.length kc]] (by rw [List.map_toArray]; rfl) enters8 _ (K1.out _ HC0.out) ?_
    rintro v v1 ⟨na5, nc5, ka5, kc5, rfl, H5⟩
    refine hK _ _ H5.out.1 ?_
    clear hK K
    have HC1 : Hid (C v1) := H5.out.1
    have HB1 : Hid (Below v0.heap.size v0 v1) := H5.out.2.1
    simp only [Act.put, List.setIfInBounds_toArray, List.set_cons_zero, List.set_cons_succ]
    refine two_do (i := 4) (j := 6) 3 rfl (by kernel_rfl) rfl (by rfl) rfl (by rfl) ?_ ?_
    · intro K hK
      refine oper_calls 8 #[.tmp 29] #[25] rfl #[.agg #[.int .i64 y.1.k, .int .i64 y.1.n, .int .i64 y.1.s, .string y.1.t, .slice na2 y.1.ns.length nc2, .slice ka2 y.2.list.length kc2]] (by rw [List.map_toArray]; rfl) enters8 _ (K2.out _ HC1.out) ?_
      rintro v v2 ⟨na6, nc6, ka6, kc6, rfl, H6⟩
      refine hK _ _ H6.out.1 ?_
      clear hK K
      have HC2 : Hid (C v2) := H6.out.1
      have HB2 : Hid (Below v1.heap.size v1 v2) := H6.out.2.1
      simp only [Act.put, List.setIfInBounds_toArray, List.set_cons_zero, List.set_cons_succ]
      refine two_do (i := 5) (j := 6) 2 rfl (by kernel_rfl) rfl (by rfl) rfl (by rfl) ?_ ?_
      · obtain ⟨_, _, Lp, hvp, hlp⟩ := H5.out
        obtain ⟨_, _, Ly, hvy, hly⟩ := H6.out
        have HS5 : Hid (∀ x ∈ Lp, v0.heap.size ≤ x ∧ x < v1.heap.size) := hlp
        have HS6 : Hid (∀ x ∈ Ly, v1.heap.size ≤ x ∧ x < v2.heap.size) := hly
        have HLay := rLay p y name HWp.out HWy.out HWs.out.1 HNK.out na5 nc5 ka5 kc5 na6 nc6 ka6 kc6 Lp Ly v2 (hvp.keep fun x hx => (HB2.out).block x (hlp x hx).2) (fun x hx => Nat.lt_of_lt_of_le (hlp x hx).2 (HB2.out).size) (hvy.keep fun x hx => ((Below.refl v2.heap.size v2)).block x (hly x hx).2) (fun x hx => Nat.lt_of_lt_of_le (hly x hx).2 ((Below.refl v2.heap.size v2)).size)
        have KL : Hid (Calls Try.prog 36 #[.agg #[.int .i64 p.1.k, .int .i64 p.1.n, .int .i64 p.1.s, .string p.1.t, .slice na5 p.1.ns.length nc5, .slice ka5 p.2.list.length kc5], .string name, .agg #[.int .i64 y.1.k, .int .i64 y.1.n, .int .i64 y.1.s, .string y.1.t, .slice na6 y.1.ns.length nc6, .slice ka6 y.2.list.length kc6]] v2 fun e w' => ∃ v, e = .returned v ∧ ∃ na8 nc8 ka8 kc8, v = .agg #[.int .i64 (layV p name y).1.k, .int .i64 (layV p name y).1.n, .int .i64 (layV p name y).1.s, .string (layV p name y).1.t, .slice na8 (layV p name y).1.ns.length nc8, .slice ka8 (layV p name y).2.list.length kc8] ∧ Hid (C w' ∧ Below v2.heap.size v2 w' ∧ ∃ L, VlL w' (layV p name y) na8 nc8 ka8 kc8 L ∧ ∀ x ∈ L, x < w'.heap.size ∧ (x ∈ Lp ∨ x ∈ Ly ∨ v2.heap.size ≤ x))) := HLay.mono fun e w' ⟨a, b, c, d, he, hh⟩ => ⟨_, he, a, b, c, d, rfl, CB.out _ _ HC2.out hh.out.2, hh.out.2, hh.out.1⟩
        clear HLay hvp hlp hvy hly
        intro K hK
        refine oper_calls 36 #[.tmp 27, .tmp 28, .tmp 30] #[25, 9, 25] rfl #[.agg #[.int .i64 p.1.k, .int .i64 p.1.n, .int .i64 p.1.s, .string p.1.t, .slice na5 p.1.ns.length nc5, .slice ka5 p.2.list.length kc5], .string name, .agg #[.int .i64 y.1.k, .int .i64 y.1.n, .int .i64 y.1.s, .string y.1.t, .slice na6 y.1.ns.length nc6, .slice ka6 y.2.list.length kc6]] (by rw [List.map_toArray]; rfl) enters36 _ KL.out ?_
        rintro v v3 ⟨na8, nc8, ka8, kc8, rfl, H8⟩
        refine hK _ _ H8.out.1 ?_
        clear hK K KL
        have HC3 : Hid (C v3) := H8.out.1
        have HB3 : Hid (Below v2.heap.size v2 v3) := H8.out.2.1
        simp only [Act.put, List.setIfInBounds_toArray, List.set_cons_zero, List.set_cons_succ]
        refine lone_do (i := 6) 1 rfl (by kernel_rfl) rfl (by rfl) ?_
        intro K hK
        refine oper_new rfl (fun w' => C w' ∧ Below v3.heap.size v3 w' ∧ Blk w' v3.heap.size 25 zer ∧ v3.heap.size < w'.heap.size) ⟨CB.out _ _ HC3.out ((Below.refl _ _).alloc (Nat.le_refl _) _), (Below.refl _ _).alloc (Nat.le_refl _) _, blk_new _ _ _, by simp⟩ ?_
        intro v4 H9
        refine hK _ _ H9.1 ?_
        clear hK K
        have HC4 : Hid (C v4) := H9.1
        have HB4 : Hid (Below v3.heap.size v3 v4) := H9.2.1
        have HA : Hid (Blk v4 v3.heap.size 25 zer ∧ v3.heap.size < v4.heap.size) := H9.2.2
        clear H9
        simp only [Act.put, List.setIfInBounds_toArray, List.set_cons_zero, List.set_cons_succ]
        have HBa : Hid (Blk v4 (v3.heap.size) 25 zer) := HA.out.1.below (Below.refl v4.heap.size v4) HA.out.2
        refine lone_last (i := 7) 0 rfl rfl (by kernel_rfl) rfl (by rfl) ?_
        intro K hK
        refine oper_row 25 (.tmp 9) (.tmp 31) rfl (v3.heap.size) 0 25 [] zer [] (six (layV p name y).1 na8 nc8 ka8 (layV p name y).2.list.length kc8) rfl rfl rfl (by simpa using HBa.out) rfl s25 (six_one _ _ _ _ _ _) ?_
        intro w9 b9 g9
        refine hK _ _ ?_
        clear hK K
        have HB9 : Hid (Blk w9 (v3.heap.size) 25 (six (layV p name y).1 na8 nc8 ka8 (layV p name y).2.list.length kc8)) := by
          have b9' := b9
          simp only [List.nil_append, List.append_nil] at b9'
          exact b9'
        have HV9 : Hid (∃ L, VlL w9 (layV p name y) na8 nc8 ka8 kc8 L ∧ ∀ x ∈ L, W.heap.size + 3 ≤ x ∧ x < w9.heap.size) := by
          obtain ⟨_, _, L, y1, y2⟩ := H8.out
          have hs0 := HSz.out _ HC0.out
          have ha := HA.out.2
          have q1 := HB1.out.size; have q2 := HB2.out.size; have q3 := HB3.out.size; have q4 := HB4.out.size; skip
          have gs := g9.size
          have bnd : ∀ x ∈ L, x ≠ v3.heap.size ∧ W.heap.size + 3 ≤ x ∧ x < v4.heap.size := fun x hx => by
            obtain ⟨e1, e2⟩ := y2 x hx
            rcases e2 with e2 | e2 | e2
            · have := HS5.out x e2; omega
            · have := HS6.out x e2; omega
            · omega
          refine ⟨L, (y1.keep fun x hx => (HB4.out).block x (y2 x hx).1).keep fun x hx => g9.block x (bnd x hx).2.2 (by intro c; injection c with c; exact (bnd x hx).1 c), fun x hx => ⟨(bnd x hx).2.1, by have := (bnd x hx).2.2; omega⟩⟩
        have HCw : Hid (C w9) := by
          have hs0 := HSz.out _ HC0.out
          have hs3 := HS3.out
          have q1 := HB1.out.size; have q2 := HB2.out.size; have q3 := HB3.out.size; have q4 := HB4.out.size; skip
          exact CX.out _ _ W3.heap.size HC4.out ((Below.refl _ _).grown g9 (by omega) (by intro x hx; injection hx with hx; omega)) (Nat.le_refl _)
        clear b9 g9 H8 HA HBa
        have hll : (layV p name y).2.list.length ≤ 140737488355328 := HLW.out.2.1
        have hk3 : Hid (Calls Try.prog 12 #[.agg (six (layV p name y).1 na8 nc8 ka8 (layV p name y).2.list.length kc8).toArray] w9 fun e w' => e = .returned (.int .i64 (chkV (layV p name y) 1)) ∧ Below w9.heap.size w9 w') := by
          obtain ⟨L, y1, _⟩ := HV9.out
          exact rCheck_any _ HLW.out na8 nc8 ka8 kc8 w9 y1.vl
        refine anyC_done (by kernel_rfl) ⟨rfl, ?_⟩
        simp only [Act.put]
        have HPo : Hid (∀ e : Int, chkV (layV p name y) 1 = e → wthE p name y = e ∧ (e ≠ 0 → wthV p name y = nulV) ∧ (e = 0 → wthV p name y = layV p name y)) := fun e he => by
          have h1 := HE.out
          rw [he] at h1
          exact ⟨h1, fun h => by unfold wthV; rw [if_neg (by rw [h1]; exact h)], fun h => by unfold wthV; rw [if_pos (by rw [h1]; exact h)]⟩
        obtain ⟨EE, hEE⟩ : ∃ EE, chkV (layV p name y) 1 = EE := ⟨_, rfl⟩
        rw [hEE] at hk3
        have HQ := HPo.out EE hEE
        have HQ2 : Hid _ := HQ
        clear hEE HPo HQ HE
        have z0 : w9.cell? ⟨v3.heap.size, 0, none⟩ = some (.int .i64 (layV p name y).1.k) := HB9.out.cell 0
        have z1 : w9.cell? ⟨v3.heap.size, 1, none⟩ = some (.int .i64 (layV p name y).1.n) := HB9.out.cell 1
        have z2 : w9.cell? ⟨v3.heap.size, 2, none⟩ = some (.int .i64 (layV p name y).1.s) := HB9.out.cell 2
        have z3 : w9.cell? ⟨v3.heap.size, 3, none⟩ = some (.string (layV p name y).1.t) := HB9.out.cell 3
        have z4 : w9.cell? ⟨v3.heap.size, 4, none⟩ = some (.slice na8 (layV p name y).1.ns.length nc8) := HB9.out.cell 4
        have z5 : w9.cell? ⟨v3.heap.size, 5, none⟩ = some (.slice ka8 (layV p name y).2.list.length kc8) := HB9.out.cell 5
        generalize hLV : layV p name y = lv at *
        go_wp2_with fail
        refine hk3.out.mono ?_
        clear hk3 z0 z1 z2 z3 z4 z5
        rintro e w5 ⟨rfl, hb5⟩
        have HBf : Hid (Below w9.heap.size w9 w5) := hb5
        clear hb5
        have HCv : Hid (C w5) := CB.out _ _ HCw.out HBf.out
        clear HCw
        have HCw : Hid (C w5) := HCv.out
        by_cases hz : EE = 0
        case neg =>
          have HNo : Hid (wthE p name y = EE ∧ wthV p name y = nulV) := ⟨HQ2.out.1, HQ2.out.2.1 hz⟩
          have HBz : Hid (Blk w5 (W.heap.size + 1 + 1) 25 zer) := C3.out _ HCw.out
          go_wp2_with (refine st_all rfl 25 (.tmp 6) (.tmp 36) rfl (W.heap.size + 1 + 1) 25 zer zer rfl rfl HBz.out rfl s25 zer_one ?_)
          intro w8 b8 g8
          have HB8 : Hid (Blk w8 (W.heap.size + 1 + 1) 25 zer) := b8
          have HE8 : Hid (Below W.heap.size W w8) := (CE.out _ HCw.out).grown g8 (CE.out _ HCw.out).size (by intro x hx; injection hx with hx; omega)
          clear b8 g8
          go_wp2
          refine bodyPost_ret (res_two rfl _ (W.heap.size + 1 + 1) 25 _ _ rfl HB8.out Try.underlying25 rfl s25) rfl ?_
          have hno := HNo.out
          rw [hno.1, hno.2]
          exact ⟨none, 0, none, 0, rfl, nul_vl _, HE8.out⟩
        subst hz
        have HBz : Hid (Blk w5 (W.heap.size + 1 + 1) 25 zer) := C3.out _ HCw.out
        have b9 := HB9.out.below HBf.out HB9.out.lt
        have z0 : w5.cell? ⟨v3.heap.size, 0, none⟩ = some (.int .i64 lv.1.k) := b9.cell 0
        have z1 : w5.cell? ⟨v3.heap.size, 1, none⟩ = some (.int .i64 lv.1.n) := b9.cell 1
        have z2 : w5.cell? ⟨v3.heap.size, 2, none⟩ = some (.int .i64 lv.1.s) := b9.cell 2
        have z3 : w5.cell? ⟨v3.heap.size, 3, none⟩ = some (.string lv.1.t) := b9.cell 3
        have z4 : w5.cell? ⟨v3.heap.size, 4, none⟩ = some (.slice na8 lv.1.ns.length nc8) := b9.cell 4
        have z5 : w5.cell? ⟨v3.heap.size, 5, none⟩ = some (.slice ka8 lv.2.list.length kc8) := b9.cell 5
        clear b9
        go_wp2_with (refine st_all rfl 25 (.tmp 6) (.tmp 38) rfl (W.heap.size + 1 + 1) 25 zer (six lv.1 na8 nc8 ka8 lv.2.list.length kc8) rfl rfl HBz.out rfl s25 (six_one _ _ _ _ _ _) ?_)
        intro w8 b8 g8
        have HB8 : Hid (Blk w8 (W.heap.size + 1 + 1) 25 (six lv.1 na8 nc8 ka8 lv.2.list.length kc8)) := b8
        have HE8 : Hid (Vl w8 lv na8 nc8 ka8 kc8 ∧ Below W.heap.size W w8) := by
          obtain ⟨L, y1, y2⟩ := HV9.out
          have s1 := HBf.out.size
          refine ⟨((y1.keep fun x hx => HBf.out.block x (y2 x hx).2).keep fun x hx => g8.block x (by have := (y2 x hx).2; omega) (by intro c; injection c with c; have := (y2 x hx).1; omega)).vl, ?_⟩
          exact (CE.out _ HCw.out).grown g8 (CE.out _ HCw.out).size (by intro x hx; injection hx with hx; omega)
        clear b8 g8
        go_wp2
        refine bodyPost_ret (res_two rfl _ (W.heap.size + 1 + 1) 25 _ _ rfl HB8.out Try.underlying25 rfl s25) rfl ?_
        rw [HQ2.out.1, HQ2.out.2.2 (by first | rfl | trivial)]
        exact ⟨_, _, _, _, rfl, HE8.out⟩
      · intro K hK
        refine oper_new rfl (fun w' => C w' ∧ Below v2.heap.size v2 w' ∧ Blk w' v2.heap.size 25 zer ∧ v2.heap.size < w'.heap.size) ⟨CB.out _ _ HC2.out ((Below.refl _ _).alloc (Nat.le_refl _) _), (Below.refl _ _).alloc (Nat.le_refl _) _, blk_new _ _ _, by simp⟩ ?_
        intro v3 H9
        refine hK _ _ H9.1 ?_
        clear hK K
        have HC3 : Hid (C v3) := H9.1
        have HB3 : Hid (Below v2.heap.size v2 v3) := H9.2.1
        have HA : Hid (Blk v3 v2.heap.size 25 zer ∧ v2.heap.size < v3.heap.size) := H9.2.2
        clear H9
        simp only [Act.put, List.setIfInBounds_toArray, List.set_cons_zero, List.set_cons_succ]
        obtain ⟨_, _, Lp, hvp, hlp⟩ := H5.out
        obtain ⟨_, _, Ly, hvy, hly⟩ := H6.out
        have HS5 : Hid (∀ x ∈ Lp, v0.heap.size ≤ x ∧ x < v1.heap.size) := hlp
        have HS6 : Hid (∀ x ∈ Ly, v1.heap.size ≤ x ∧ x < v2.heap.size) := hly
        have HLay := rLay p y name HWp.out HWy.out HWs.out.1 HNK.out na5 nc5 ka5 kc5 na6 nc6 ka6 kc6 Lp Ly v3 (hvp.keep fun x hx => ((HB2.out.trans (HB3.out.mono HB2.out.size))).block x (hlp x hx).2) (fun x hx => Nat.lt_of_lt_of_le (hlp x hx).2 ((HB2.out.trans (HB3.out.mono HB2.out.size))).size) (hvy.keep fun x hx => (HB3.out).block x (hly x hx).2) (fun x hx => Nat.lt_of_lt_of_le (hly x hx).2 (HB3.out).size)
        have KL : Hid (Calls Try.prog 36 #[.agg #[.int .i64 p.1.k, .int .i64 p.1.n, .int .i64 p.1.s, .string p.1.t, .slice na5 p.1.ns.length nc5, .slice ka5 p.2.list.length kc5], .string name, .agg #[.int .i64 y.1.k, .int .i64 y.1.n, .int .i64 y.1.s, .string y.1.t, .slice na6 y.1.ns.length nc6, .slice ka6 y.2.list.length kc6]] v3 fun e w' => ∃ v, e = .returned v ∧ ∃ na8 nc8 ka8 kc8, v = .agg #[.int .i64 (layV p name y).1.k, .int .i64 (layV p name y).1.n, .int .i64 (layV p name y).1.s, .string (layV p name y).1.t, .slice na8 (layV p name y).1.ns.length nc8, .slice ka8 (layV p name y).2.list.length kc8] ∧ Hid (C w' ∧ Below v3.heap.size v3 w' ∧ ∃ L, VlL w' (layV p name y) na8 nc8 ka8 kc8 L ∧ ∀ x ∈ L, x < w'.heap.size ∧ (x ∈ Lp ∨ x ∈ Ly ∨ v3.heap.size ≤ x))) := HLay.mono fun e w' ⟨a, b, c, d, he, hh⟩ => ⟨_, he, a, b, c, d, rfl, CB.out _ _ HC3.out hh.out.2, hh.out.2, hh.out.1⟩
        clear HLay hvp hlp hvy hly
        refine lone_do (i := 5) 1 rfl (by kernel_rfl) rfl (by rfl) ?_
        intro K hK
        refine oper_calls 36 #[.tmp 27, .tmp 28, .tmp 30] #[25, 9, 25] rfl #[.agg #[.int .i64 p.1.k, .int .i64 p.1.n, .int .i64 p.1.s, .string p.1.t, .slice na5 p.1.ns.length nc5, .slice ka5 p.2.list.length kc5], .string name, .agg #[.int .i64 y.1.k, .int .i64 y.1.n, .int .i64 y.1.s, .string y.1.t, .slice na6 y.1.ns.length nc6, .slice ka6 y.2.list.length kc6]] (by rw [List.map_toArray]; rfl) enters36 _ KL.out ?_
        rintro v v4 ⟨na8, nc8, ka8, kc8, rfl, H8⟩
        refine hK _ _ H8.out.1 ?_
        clear hK K KL
        have HC4 : Hid (C v4) := H8.out.1
        have HB4 : Hid (Below v3.heap.size v3 v4) := H8.out.2.1
        simp only [Act.put, List.setIfInBounds_toArray, List.set_cons_zero, List.set_cons_succ]
        have HBa : Hid (Blk v4 (v2.heap.size) 25 zer) := HA.out.1.below HB4.out HA.out.2
        refine lone_last (i := 7) 0 rfl rfl (by kernel_rfl) rfl (by rfl) ?_
        intro K hK
        refine oper_row 25 (.tmp 9) (.tmp 31) rfl (v2.heap.size) 0 25 [] zer [] (six (layV p name y).1 na8 nc8 ka8 (layV p name y).2.list.length kc8) rfl rfl rfl (by simpa using HBa.out) rfl s25 (six_one _ _ _ _ _ _) ?_
        intro w9 b9 g9
        refine hK _ _ ?_
        clear hK K
        have HB9 : Hid (Blk w9 (v2.heap.size) 25 (six (layV p name y).1 na8 nc8 ka8 (layV p name y).2.list.length kc8)) := by
          have b9' := b9
          simp only [List.nil_append, List.append_nil] at b9'
          exact b9'
        have HV9 : Hid (∃ L, VlL w9 (layV p name y) na8 nc8 ka8 kc8 L ∧ ∀ x ∈ L, W.heap.size + 3 ≤ x ∧ x < w9.heap.size) := by
          obtain ⟨_, _, L, y1, y2⟩ := H8.out
          have hs0 := HSz.out _ HC0.out
          have ha := HA.out.2
          have q1 := HB1.out.size; have q2 := HB2.out.size; have q3 := HB3.out.size; have q4 := HB4.out.size; skip
          have gs := g9.size
          have bnd : ∀ x ∈ L, x ≠ v2.heap.size ∧ W.heap.size + 3 ≤ x ∧ x < v4.heap.size := fun x hx => by
            obtain ⟨e1, e2⟩ := y2 x hx
            rcases e2 with e2 | e2 | e2
            · have := HS5.out x e2; omega
            · have := HS6.out x e2; omega
            · omega
          refine ⟨L, (y1.keep fun x hx => ((Below.refl v4.heap.size v4)).block x (y2 x hx).1).keep fun x hx => g9.block x (bnd x hx).2.2 (by intro c; injection c with c; exact (bnd x hx).1 c), fun x hx => ⟨(bnd x hx).2.1, by have := (bnd x hx).2.2; omega⟩⟩
        have HCw : Hid (C w9) := by
          have hs0 := HSz.out _ HC0.out
          have hs3 := HS3.out
          have q1 := HB1.out.size; have q2 := HB2.out.size; have q3 := HB3.out.size; have q4 := HB4.out.size; skip
          exact CX.out _ _ W3.heap.size HC4.out ((Below.refl _ _).grown g9 (by omega) (by intro x hx; injection hx with hx; omega)) (Nat.le_refl _)
        clear b9 g9 H8 HA HBa
        have hll : (layV p name y).2.list.length ≤ 140737488355328 := HLW.out.2.1
        have hk3 : Hid (Calls Try.prog 12 #[.agg (six (layV p name y).1 na8 nc8 ka8 (layV p name y).2.list.length kc8).toArray] w9 fun e w' => e = .returned (.int .i64 (chkV (layV p name y) 1)) ∧ Below w9.heap.size w9 w') := by
          obtain ⟨L, y1, _⟩ := HV9.out
          exact rCheck_any _ HLW.out na8 nc8 ka8 kc8 w9 y1.vl
        refine anyC_done (by kernel_rfl) ⟨rfl, ?_⟩
        simp only [Act.put]
        have HPo : Hid (∀ e : Int, chkV (layV p name y) 1 = e → wthE p name y = e ∧ (e ≠ 0 → wthV p name y = nulV) ∧ (e = 0 → wthV p name y = layV p name y)) := fun e he => by
          have h1 := HE.out
          rw [he] at h1
          exact ⟨h1, fun h => by unfold wthV; rw [if_neg (by rw [h1]; exact h)], fun h => by unfold wthV; rw [if_pos (by rw [h1]; exact h)]⟩
        obtain ⟨EE, hEE⟩ : ∃ EE, chkV (layV p name y) 1 = EE := ⟨_, rfl⟩
        rw [hEE] at hk3
        have HQ := HPo.out EE hEE
        have HQ2 : Hid _ := HQ
        clear hEE HPo HQ HE
        have z0 : w9.cell? ⟨v2.heap.size, 0, none⟩ = some (.int .i64 (layV p name y).1.k) := HB9.out.cell 0
        have z1 : w9.cell? ⟨v2.heap.size, 1, none⟩ = some (.int .i64 (layV p name y).1.n) := HB9.out.cell 1
        have z2 : w9.cell? ⟨v2.heap.size, 2, none⟩ = some (.int .i64 (layV p name y).1.s) := HB9.out.cell 2
        have z3 : w9.cell? ⟨v2.heap.size, 3, none⟩ = some (.string (layV p name y).1.t) := HB9.out.cell 3
        have z4 : w9.cell? ⟨v2.heap.size, 4, none⟩ = some (.slice na8 (layV p name y).1.ns.length nc8) := HB9.out.cell 4
        have z5 : w9.cell? ⟨v2.heap.size, 5, none⟩ = some (.slice ka8 (layV p name y).2.list.length kc8) := HB9.out.cell 5
        generalize hLV : layV p name y = lv at *
        go_wp2_with fail
        refine hk3.out.mono ?_
        clear hk3 z0 z1 z2 z3 z4 z5
        rintro e w5 ⟨rfl, hb5⟩
        have HBf : Hid (Below w9.heap.size w9 w5) := hb5
        clear hb5
        have HCv : Hid (C w5) := CB.out _ _ HCw.out HBf.out
        clear HCw
        have HCw : Hid (C w5) := HCv.out
        by_cases hz : EE = 0
        case neg =>
          have HNo : Hid (wthE p name y = EE ∧ wthV p name y = nulV) := ⟨HQ2.out.1, HQ2.out.2.1 hz⟩
          have HBz : Hid (Blk w5 (W.heap.size + 1 + 1) 25 zer) := C3.out _ HCw.out
          go_wp2_with (refine st_all rfl 25 (.tmp 6) (.tmp 36) rfl (W.heap.size + 1 + 1) 25 zer zer rfl rfl HBz.out rfl s25 zer_one ?_)
          intro w8 b8 g8
          have HB8 : Hid (Blk w8 (W.heap.size + 1 + 1) 25 zer) := b8
          have HE8 : Hid (Below W.heap.size W w8) := (CE.out _ HCw.out).grown g8 (CE.out _ HCw.out).size (by intro x hx; injection hx with hx; omega)
          clear b8 g8
          go_wp2
          refine bodyPost_ret (res_two rfl _ (W.heap.size + 1 + 1) 25 _ _ rfl HB8.out Try.underlying25 rfl s25) rfl ?_
          have hno := HNo.out
          rw [hno.1, hno.2]
          exact ⟨none, 0, none, 0, rfl, nul_vl _, HE8.out⟩
        subst hz
        have HBz : Hid (Blk w5 (W.heap.size + 1 + 1) 25 zer) := C3.out _ HCw.out
        have b9 := HB9.out.below HBf.out HB9.out.lt
        have z0 : w5.cell? ⟨v2.heap.size, 0, none⟩ = some (.int .i64 lv.1.k) := b9.cell 0
        have z1 : w5.cell? ⟨v2.heap.size, 1, none⟩ = some (.int .i64 lv.1.n) := b9.cell 1
        have z2 : w5.cell? ⟨v2.heap.size, 2, none⟩ = some (.int .i64 lv.1.s) := b9.cell 2
        have z3 : w5.cell? ⟨v2.heap.size, 3, none⟩ = some (.string lv.1.t) := b9.cell 3
        have z4 : w5.cell? ⟨v2.heap.size, 4, none⟩ = some (.slice na8 lv.1.ns.length nc8) := b9.cell 4
        have z5 : w5.cell? ⟨v2.heap.size, 5, none⟩ = some (.slice ka8 lv.2.list.length kc8) := b9.cell 5
        clear b9
        go_wp2_with (refine st_all rfl 25 (.tmp 6) (.tmp 38) rfl (W.heap.size + 1 + 1) 25 zer (six lv.1 na8 nc8 ka8 lv.2.list.length kc8) rfl rfl HBz.out rfl s25 (six_one _ _ _ _ _ _) ?_)
        intro w8 b8 g8
        have HB8 : Hid (Blk w8 (W.heap.size + 1 + 1) 25 (six lv.1 na8 nc8 ka8 lv.2.list.length kc8)) := b8
        have HE8 : Hid (Vl w8 lv na8 nc8 ka8 kc8 ∧ Below W.heap.size W w8) := by
          obtain ⟨L, y1, y2⟩ := HV9.out
          have s1 := HBf.out.size
          refine ⟨((y1.keep fun x hx => HBf.out.block x (y2 x hx).2).keep fun x hx => g8.block x (by have := (y2 x hx).2; omega) (by intro c; injection c with c; have := (y2 x hx).1; omega)).vl, ?_⟩
          exact (CE.out _ HCw.out).grown g8 (CE.out _ HCw.out).size (by intro x hx; injection hx with hx; omega)
        clear b8 g8
        go_wp2
        refine bodyPost_ret (res_two rfl _ (W.heap.size + 1 + 1) 25 _ _ rfl HB8.out Try.underlying25 rfl s25) rfl ?_
        rw [HQ2.out.1, HQ2.out.2.2 (by first | rfl | trivial)]
        exact ⟨_, _, _, _, rfl, HE8.out⟩
    · intro K hK
      refine oper_new rfl (fun w' => C w' ∧ Below v1.heap.size v1 w' ∧ Blk w' v1.heap.size 25 zer ∧ v1.heap.size < w'.heap.size) ⟨CB.out _ _ HC1.out ((Below.refl _ _).alloc (Nat.le_refl _) _), (Below.refl _ _).alloc (Nat.le_refl _) _, blk_new _ _ _, by simp⟩ ?_
      intro v2 H9
      refine hK _ _ H9.1 ?_
      clear hK K
      have HC2 : Hid (C v2) := H9.1
      have HB2 : Hid (Below v1.heap.size v1 v2) := H9.2.1
      have HA : Hid (Blk v2 v1.heap.size 25 zer ∧ v1.heap.size < v2.heap.size) := H9.2.2
      clear H9
      simp only [Act.put, List.setIfInBounds_toArray, List.set_cons_zero, List.set_cons_succ]
      refine lone_do (i := 4) 2 rfl (by kernel_rfl) rfl (by rfl) ?_
      intro K hK
      refine oper_calls 8 #[.tmp 29] #[25] rfl #[.agg #[.int .i64 y.1.k, .int .i64 y.1.n, .int .i64 y.1.s, .string y.1.t, .slice na2 y.1.ns.length nc2, .slice ka2 y.2.list.length kc2]] (by rw [List.map_toArray]; rfl) enters8 _ (K2.out _ HC2.out) ?_
      rintro v v3 ⟨na6, nc6, ka6, kc6, rfl, H6⟩
      refine hK _ _ H6.out.1 ?_
      clear hK K
      have HC3 : Hid (C v3) := H6.out.1
      have HB3 : Hid (Below v2.heap.size v2 v3) := H6.out.2.1
      simp only [Act.put, List.setIfInBounds_toArray, List.set_cons_zero, List.set_cons_succ]
      obtain ⟨_, _, Lp, hvp, hlp⟩ := H5.out
      obtain ⟨_, _, Ly, hvy, hly⟩ := H6.out
      have HS5 : Hid (∀ x ∈ Lp, v0.heap.size ≤ x ∧ x < v1.heap.size) := hlp
      have HS6 : Hid (∀ x ∈ Ly, v2.heap.size ≤ x ∧ x < v3.heap.size) := hly
      have HLay := rLay p y name HWp.out HWy.out HWs.out.1 HNK.out na5 nc5 ka5 kc5 na6 nc6 ka6 kc6 Lp Ly v3 (hvp.keep fun x hx => ((HB2.out.trans (HB3.out.mono HB2.out.size))).block x (hlp x hx).2) (fun x hx => Nat.lt_of_lt_of_le (hlp x hx).2 ((HB2.out.trans (HB3.out.mono HB2.out.size))).size) (hvy.keep fun x hx => ((Below.refl v3.heap.size v3)).block x (hly x hx).2) (fun x hx => Nat.lt_of_lt_of_le (hly x hx).2 ((Below.refl v3.heap.size v3)).size)
      have KL : Hid (Calls Try.prog 36 #[.agg #[.int .i64 p.1.k, .int .i64 p.1.n, .int .i64 p.1.s, .string p.1.t, .slice na5 p.1.ns.length nc5, .slice ka5 p.2.list.length kc5], .string name, .agg #[.int .i64 y.1.k, .int .i64 y.1.n, .int .i64 y.1.s, .string y.1.t, .slice na6 y.1.ns.length nc6, .slice ka6 y.2.list.length kc6]] v3 fun e w' => ∃ v, e = .returned v ∧ ∃ na8 nc8 ka8 kc8, v = .agg #[.int .i64 (layV p name y).1.k, .int .i64 (layV p name y).1.n, .int .i64 (layV p name y).1.s, .string (layV p name y).1.t, .slice na8 (layV p name y).1.ns.length nc8, .slice ka8 (layV p name y).2.list.length kc8] ∧ Hid (C w' ∧ Below v3.heap.size v3 w' ∧ ∃ L, VlL w' (layV p name y) na8 nc8 ka8 kc8 L ∧ ∀ x ∈ L, x < w'.heap.size ∧ (x ∈ Lp ∨ x ∈ Ly ∨ v3.heap.size ≤ x))) := HLay.mono fun e w' ⟨a, b, c, d, he, hh⟩ => ⟨_, he, a, b, c, d, rfl, CB.out _ _ HC3.out hh.out.2, hh.out.2, hh.out.1⟩
      clear HLay hvp hlp hvy hly
      refine lone_do (i := 5) 1 rfl (by kernel_rfl) rfl (by rfl) ?_
      intro K hK
      refine oper_calls 36 #[.tmp 27, .tmp 28, .tmp 30] #[25, 9, 25] rfl #[.agg #[.int .i64 p.1.k, .int .i64 p.1.n, .int .i64 p.1.s, .string p.1.t, .slice na5 p.1.ns.length nc5, .slice ka5 p.2.list.length kc5], .string name, .agg #[.int .i64 y.1.k, .int .i64 y.1.n, .int .i64 y.1.s, .string y.1.t, .slice na6 y.1.ns.length nc6, .slice ka6 y.2.list.length kc6]] (by rw [List.map_toArray]; rfl) enters36 _ KL.out ?_
      rintro v v4 ⟨na8, nc8, ka8, kc8, rfl, H8⟩
      refine hK _ _ H8.out.1 ?_
      clear hK K KL
      have HC4 : Hid (C v4) := H8.out.1
      have HB4 : Hid (Below v3.heap.size v3 v4) := H8.out.2.1
      simp only [Act.put, List.setIfInBounds_toArray, List.set_cons_zero, List.set_cons_succ]
      have HBa : Hid (Blk v4 (v1.heap.size) 25 zer) := HA.out.1.below (HB3.out.trans (HB4.out.mono HB3.out.size)) HA.out.2
      refine lone_last (i := 7) 0 rfl rfl (by kernel_rfl) rfl (by rfl) ?_
      intro K hK
      refine oper_row 25 (.tmp 9) (.tmp 31) rfl (v1.heap.size) 0 25 [] zer [] (six (layV p name y).1 na8 nc8 ka8 (layV p name y).2.list.length kc8) rfl rfl rfl (by simpa using HBa.out) rfl s25 (six_one _ _ _ _ _ _) ?_
      intro w9 b9 g9
      refine hK _ _ ?_
      clear hK K
      have HB9 : Hid (Blk w9 (v1.heap.size) 25 (six (layV p name y).1 na8 nc8 ka8 (layV p name y).2.list.length kc8)) := by
        have b9' := b9
        simp only [List.nil_append, List.append_nil] at b9'
        exact b9'
      have HV9 : Hid (∃ L, VlL w9 (layV p name y) na8 nc8 ka8 kc8 L ∧ ∀ x ∈ L, W.heap.size + 3 ≤ x ∧ x < w9.heap.size) := by
        obtain ⟨_, _, L, y1, y2⟩ := H8.out
        have hs0 := HSz.out _ HC0.out
        have ha := HA.out.2
        have q1 := HB1.out.size; have q2 := HB2.out.size; have q3 := HB3.out.size; have q4 := HB4.out.size; skip
        have gs := g9.size
        have bnd : ∀ x ∈ L, x ≠ v1.heap.size ∧ W.heap.size + 3 ≤ x ∧ x < v4.heap.size := fun x hx => by
          obtain ⟨e1, e2⟩ := y2 x hx
          rcases e2 with e2 | e2 | e2
          · have := HS5.out x e2; omega
          · have := HS6.out x e2; omega
          · omega
        refine ⟨L, (y1.keep fun x hx => ((Below.refl v4.heap.size v4)).block x (y2 x hx).1).keep fun x hx => g9.block x (bnd x hx).2.2 (by intro c; injection c with c; exact (bnd x hx).1 c), fun x hx => ⟨(bnd x hx).2.1, by have := (bnd x hx).2.2; omega⟩⟩
      have HCw : Hid (C w9) := by
        have hs0 := HSz.out _ HC0.out
        have hs3 := HS3.out
        have q1 := HB1.out.size; have q2 := HB2.out.size; have q3 := HB3.out.size; have q4 := HB4.out.size; skip
        exact CX.out _ _ W3.heap.size HC4.out ((Below.refl _ _).grown g9 (by omega) (by intro x hx; injection hx with hx; omega)) (Nat.le_refl _)
      clear b9 g9 H8 HA HBa
      have hll : (layV p name y).2.list.length ≤ 140737488355328 := HLW.out.2.1
      have hk3 : Hid (Calls Try.prog 12 #[.agg (six (layV p name y).1 na8 nc8 ka8 (layV p name y).2.list.length kc8).toArray] w9 fun e w' => e = .returned (.int .i64 (chkV (layV p name y) 1)) ∧ Below w9.heap.size w9 w') := by
        obtain ⟨L, y1, _⟩ := HV9.out
        exact rCheck_any _ HLW.out na8 nc8 ka8 kc8 w9 y1.vl
      refine anyC_done (by kernel_rfl) ⟨rfl, ?_⟩
      simp only [Act.put]
      have HPo : Hid (∀ e : Int, chkV (layV p name y) 1 = e → wthE p name y = e ∧ (e ≠ 0 → wthV p name y = nulV) ∧ (e = 0 → wthV p name y = layV p name y)) := fun e he => by
        have h1 := HE.out
        rw [he] at h1
        exact ⟨h1, fun h => by unfold wthV; rw [if_neg (by rw [h1]; exact h)], fun h => by unfold wthV; rw [if_pos (by rw [h1]; exact h)]⟩
      obtain ⟨EE, hEE⟩ : ∃ EE, chkV (layV p name y) 1 = EE := ⟨_, rfl⟩
      rw [hEE] at hk3
      have HQ := HPo.out EE hEE
      have HQ2 : Hid _ := HQ
      clear hEE HPo HQ HE
      have z0 : w9.cell? ⟨v1.heap.size, 0, none⟩ = some (.int .i64 (layV p name y).1.k) := HB9.out.cell 0
      have z1 : w9.cell? ⟨v1.heap.size, 1, none⟩ = some (.int .i64 (layV p name y).1.n) := HB9.out.cell 1
      have z2 : w9.cell? ⟨v1.heap.size, 2, none⟩ = some (.int .i64 (layV p name y).1.s) := HB9.out.cell 2
      have z3 : w9.cell? ⟨v1.heap.size, 3, none⟩ = some (.string (layV p name y).1.t) := HB9.out.cell 3
      have z4 : w9.cell? ⟨v1.heap.size, 4, none⟩ = some (.slice na8 (layV p name y).1.ns.length nc8) := HB9.out.cell 4
      have z5 : w9.cell? ⟨v1.heap.size, 5, none⟩ = some (.slice ka8 (layV p name y).2.list.length kc8) := HB9.out.cell 5
      generalize hLV : layV p name y = lv at *
      go_wp2_with fail
      refine hk3.out.mono ?_
      clear hk3 z0 z1 z2 z3 z4 z5
      rintro e w5 ⟨rfl, hb5⟩
      have HBf : Hid (Below w9.heap.size w9 w5) := hb5
      clear hb5
      have HCv : Hid (C w5) := CB.out _ _ HCw.out HBf.out
      clear HCw
      have HCw : Hid (C w5) := HCv.out
      by_cases hz : EE = 0
      case neg =>
        have HNo : Hid (wthE p name y = EE ∧ wthV p name y = nulV) := ⟨HQ2.out.1, HQ2.out.2.1 hz⟩
        have HBz : Hid (Blk w5 (W.heap.size + 1 + 1) 25 zer) := C3.out _ HCw.out
        go_wp2_with (refine st_all rfl 25 (.tmp 6) (.tmp 36) rfl (W.heap.size + 1 + 1) 25 zer zer rfl rfl HBz.out rfl s25 zer_one ?_)
        intro w8 b8 g8
        have HB8 : Hid (Blk w8 (W.heap.size + 1 + 1) 25 zer) := b8
        have HE8 : Hid (Below W.heap.size W w8) := (CE.out _ HCw.out).grown g8 (CE.out _ HCw.out).size (by intro x hx; injection hx with hx; omega)
        clear b8 g8
        go_wp2
        refine bodyPost_ret (res_two rfl _ (W.heap.size + 1 + 1) 25 _ _ rfl HB8.out Try.underlying25 rfl s25) rfl ?_
        have hno := HNo.out
        rw [hno.1, hno.2]
        exact ⟨none, 0, none, 0, rfl, nul_vl _, HE8.out⟩
      subst hz
      have HBz : Hid (Blk w5 (W.heap.size + 1 + 1) 25 zer) := C3.out _ HCw.out
      have b9 := HB9.out.below HBf.out HB9.out.lt
      have z0 : w5.cell? ⟨v1.heap.size, 0, none⟩ = some (.int .i64 lv.1.k) := b9.cell 0
      have z1 : w5.cell? ⟨v1.heap.size, 1, none⟩ = some (.int .i64 lv.1.n) := b9.cell 1
      have z2 : w5.cell? ⟨v1.heap.size, 2, none⟩ = some (.int .i64 lv.1.s) := b9.cell 2
      have z3 : w5.cell? ⟨v1.heap.size, 3, none⟩ = some (.string lv.1.t) := b9.cell 3
      have z4 : w5.cell? ⟨v1.heap.size, 4, none⟩ = some (.slice na8 lv.1.ns.length nc8) := b9.cell 4
      have z5 : w5.cell? ⟨v1.heap.size, 5, none⟩ = some (.slice ka8 lv.2.list.length kc8) := b9.cell 5
      clear b9
      go_wp2_with (refine st_all rfl 25 (.tmp 6) (.tmp 38) rfl (W.heap.size + 1 + 1) 25 zer (six lv.1 na8 nc8 ka8 lv.2.list.length kc8) rfl rfl HBz.out rfl s25 (six_one _ _ _ _ _ _) ?_)
      intro w8 b8 g8
      have HB8 : Hid (Blk w8 (W.heap.size + 1 + 1) 25 (six lv.1 na8 nc8 ka8 lv.2.list.length kc8)) := b8
      have HE8 : Hid (Vl w8 lv na8 nc8 ka8 kc8 ∧ Below W.heap.size W w8) := by
        obtain ⟨L, y1, y2⟩ := HV9.out
        have s1 := HBf.out.size
        refine ⟨((y1.keep fun x hx => HBf.out.block x (y2 x hx).2).keep fun x hx => g8.block x (by have := (y2 x hx).2; omega) (by intro c; injection c with c; have := (y2 x hx).1; omega)).vl, ?_⟩
        exact (CE.out _ HCw.out).grown g8 (CE.out _ HCw.out).size (by intro x hx; injection hx with hx; omega)
      clear b8 g8
      go_wp2
      refine bodyPost_ret (res_two rfl _ (W.heap.size + 1 + 1) 25 _ _ rfl HB8.out Try.underlying25 rfl s25) rfl ?_
      rw [HQ2.out.1, HQ2.out.2.2 (by first | rfl | trivial)]
      exact ⟨_, _, _, _, rfl, HE8.out⟩
  · intro K hK
    refine oper_new rfl (fun w' => C w' ∧ Below v0.heap.size v0 w' ∧ Blk w' v0.heap.size 25 zer ∧ v0.heap.size < w'.heap.size) ⟨CB.out _ _ HC0.out ((Below.refl _ _).alloc (Nat.le_refl _) _), (Below.refl _ _).alloc (Nat.le_refl _) _, blk_new _ _ _, by simp⟩ ?_
    intro v1 H9
    refine hK _ _ H9.1 ?_
    clear hK K
    have HC1 : Hid (C v1) := H9.1
    have HB1 : Hid (Below v0.heap.size v0 v1) := H9.2.1
    have HA : Hid (Blk v1 v0.heap.size 25 zer ∧ v0.heap.size < v1.heap.size) := H9.2.2
    clear H9
    simp only [Act.put, List.setIfInBounds_toArray, List.set_cons_zero, List.set_cons_succ]
    refine lone_do (i := 1) 3 rfl (by kernel_rfl) rfl (by rfl) ?_
    intro K hK
    refine oper_calls 8 #[.tmp 26] #[25] rfl #[.agg #[.int .i64 p.1.k, .int .i64 p.1.n, .int .i64 p.1.s, .string p.1.t, .slice na p.1.ns.length nc, .slice ka p.2.list.length kc]] (by rw [List.map_toArray]; rfl) enters8 _ (K1.out _ HC1.out) ?_
    rintro v v2 ⟨na5, nc5, ka5, kc5, rfl, H5⟩
    refine hK _ _ H5.out.1 ?_
    clear hK K
    have HC2 : Hid (C v2) := H5.out.1
    have HB2 : Hid (Below v1.heap.size v1 v2) := H5.out.2.1
    simp only [Act.put, List.setIfInBounds_toArray, List.set_cons_zero, List.set_cons_succ]
    refine lone_do (i := 4) 2 rfl (by kernel_rfl) rfl (by rfl) ?_
    intro K hK
    refine oper_calls 8 #[.tmp 29] #[25] rfl #[.agg #[.int .i64 y.1.k, .int .i64 y.1.n, .int .i64 y.1.s, .string y.1.t, .slice na2 y.1.ns.length nc2, .slice ka2 y.2.list.length kc2]] (by rw [List.map_toArray]; rfl) enters8 _ (K2.out _ HC2.out) ?_
    rintro v v3 ⟨na6, nc6, ka6, kc6, rfl, H6⟩
    refine hK _ _ H6.out.1 ?_
    clear hK K
    have HC3 : Hid (C v3) := H6.out.1
    have HB3 : Hid (Below v2.heap.size v2 v3) := H6.out.2.1
    simp only [Act.put, List.setIfInBounds_toArray, List.set_cons_zero, List.set_cons_succ]
    obtain ⟨_, _, Lp, hvp, hlp⟩ := H5.out
    obtain ⟨_, _, Ly, hvy, hly⟩ := H6.out
    have HS5 : Hid (∀ x ∈ Lp, v1.heap.size ≤ x ∧ x < v2.heap.size) := hlp
    have HS6 : Hid (∀ x ∈ Ly, v2.heap.size ≤ x ∧ x < v3.heap.size) := hly
    have HLay := rLay p y name HWp.out HWy.out HWs.out.1 HNK.out na5 nc5 ka5 kc5 na6 nc6 ka6 kc6 Lp Ly v3 (hvp.keep fun x hx => (HB3.out).block x (hlp x hx).2) (fun x hx => Nat.lt_of_lt_of_le (hlp x hx).2 (HB3.out).size) (hvy.keep fun x hx => ((Below.refl v3.heap.size v3)).block x (hly x hx).2) (fun x hx => Nat.lt_of_lt_of_le (hly x hx).2 ((Below.refl v3.heap.size v3)).size)
    have KL : Hid (Calls Try.prog 36 #[.agg #[.int .i64 p.1.k, .int .i64 p.1.n, .int .i64 p.1.s, .string p.1.t, .slice na5 p.1.ns.length nc5, .slice ka5 p.2.list.length kc5], .string name, .agg #[.int .i64 y.1.k, .int .i64 y.1.n, .int .i64 y.1.s, .string y.1.t, .slice na6 y.1.ns.length nc6, .slice ka6 y.2.list.length kc6]] v3 fun e w' => ∃ v, e = .returned v ∧ ∃ na8 nc8 ka8 kc8, v = .agg #[.int .i64 (layV p name y).1.k, .int .i64 (layV p name y).1.n, .int .i64 (layV p name y).1.s, .string (layV p name y).1.t, .slice na8 (layV p name y).1.ns.length nc8, .slice ka8 (layV p name y).2.list.length kc8] ∧ Hid (C w' ∧ Below v3.heap.size v3 w' ∧ ∃ L, VlL w' (layV p name y) na8 nc8 ka8 kc8 L ∧ ∀ x ∈ L, x < w'.heap.size ∧ (x ∈ Lp ∨ x ∈ Ly ∨ v3.heap.size ≤ x))) := HLay.mono fun e w' ⟨a, b, c, d, he, hh⟩ => ⟨_, he, a, b, c, d, rfl, CB.out _ _ HC3.out hh.out.2, hh.out.2, hh.out.1⟩
    clear HLay hvp hlp hvy hly
    refine lone_do (i := 5) 1 rfl (by kernel_rfl) rfl (by rfl) ?_
    intro K hK
    refine oper_calls 36 #[.tmp 27, .tmp 28, .tmp 30] #[25, 9, 25] rfl #[.agg #[.int .i64 p.1.k, .int .i64 p.1.n, .int .i64 p.1.s, .string p.1.t, .slice na5 p.1.ns.length nc5, .slice ka5 p.2.list.length kc5], .string name, .agg #[.int .i64 y.1.k, .int .i64 y.1.n, .int .i64 y.1.s, .string y.1.t, .slice na6 y.1.ns.length nc6, .slice ka6 y.2.list.length kc6]] (by rw [List.map_toArray]; rfl) enters36 _ KL.out ?_
    rintro v v4 ⟨na8, nc8, ka8, kc8, rfl, H8⟩
    refine hK _ _ H8.out.1 ?_
    clear hK K KL
    have HC4 : Hid (C v4) := H8.out.1
    have HB4 : Hid (Below v3.heap.size v3 v4) := H8.out.2.1
    simp only [Act.put, List.setIfInBounds_toArray, List.set_cons_zero, List.set_cons_succ]
    have HBa : Hid (Blk v4 (v0.heap.size) 25 zer) := HA.out.1.below ((HB2.out.trans (HB3.out.mono HB2.out.size)).trans (HB4.out.mono (HB2.out.trans (HB3.out.mono HB2.out.size)).size)) HA.out.2
    refine lone_last (i := 7) 0 rfl rfl (by kernel_rfl) rfl (by rfl) ?_
    intro K hK
    refine oper_row 25 (.tmp 9) (.tmp 31) rfl (v0.heap.size) 0 25 [] zer [] (six (layV p name y).1 na8 nc8 ka8 (layV p name y).2.list.length kc8) rfl rfl rfl (by simpa using HBa.out) rfl s25 (six_one _ _ _ _ _ _) ?_
    intro w9 b9 g9
    refine hK _ _ ?_
    clear hK K
    have HB9 : Hid (Blk w9 (v0.heap.size) 25 (six (layV p name y).1 na8 nc8 ka8 (layV p name y).2.list.length kc8)) := by
      have b9' := b9
      simp only [List.nil_append, List.append_nil] at b9'
      exact b9'
    have HV9 : Hid (∃ L, VlL w9 (layV p name y) na8 nc8 ka8 kc8 L ∧ ∀ x ∈ L, W.heap.size + 3 ≤ x ∧ x < w9.heap.size) := by
      obtain ⟨_, _, L, y1, y2⟩ := H8.out
      have hs0 := HSz.out _ HC0.out
      have ha := HA.out.2
      have q1 := HB1.out.size; have q2 := HB2.out.size; have q3 := HB3.out.size; have q4 := HB4.out.size; skip
      have gs := g9.size
      have bnd : ∀ x ∈ L, x ≠ v0.heap.size ∧ W.heap.size + 3 ≤ x ∧ x < v4.heap.size := fun x hx => by
        obtain ⟨e1, e2⟩ := y2 x hx
        rcases e2 with e2 | e2 | e2
        · have := HS5.out x e2; omega
        · have := HS6.out x e2; omega
        · omega
      refine ⟨L, (y1.keep fun x hx => ((Below.refl v4.heap.size v4)).block x (y2 x hx).1).keep fun x hx => g9.block x (bnd x hx).2.2 (by intro c; injection c with c; exact (bnd x hx).1 c), fun x hx => ⟨(bnd x hx).2.1, by have := (bnd x hx).2.2; omega⟩⟩
    have HCw : Hid (C w9) := by
      have hs0 := HSz.out _ HC0.out
      have hs3 := HS3.out
      have q1 := HB1.out.size; have q2 := HB2.out.size; have q3 := HB3.out.size; have q4 := HB4.out.size; skip
      exact CX.out _ _ W3.heap.size HC4.out ((Below.refl _ _).grown g9 (by omega) (by intro x hx; injection hx with hx; omega)) (Nat.le_refl _)
    clear b9 g9 H8 HA HBa
    have hll : (layV p name y).2.list.length ≤ 140737488355328 := HLW.out.2.1
    have hk3 : Hid (Calls Try.prog 12 #[.agg (six (layV p name y).1 na8 nc8 ka8 (layV p name y).2.list.length kc8).toArray] w9 fun e w' => e = .returned (.int .i64 (chkV (layV p name y) 1)) ∧ Below w9.heap.size w9 w') := by
      obtain ⟨L, y1, _⟩ := HV9.out
      exact rCheck_any _ HLW.out na8 nc8 ka8 kc8 w9 y1.vl
    refine anyC_done (by kernel_rfl) ⟨rfl, ?_⟩
    simp only [Act.put]
    have HPo : Hid (∀ e : Int, chkV (layV p name y) 1 = e → wthE p name y = e ∧ (e ≠ 0 → wthV p name y = nulV) ∧ (e = 0 → wthV p name y = layV p name y)) := fun e he => by
      have h1 := HE.out
      rw [he] at h1
      exact ⟨h1, fun h => by unfold wthV; rw [if_neg (by rw [h1]; exact h)], fun h => by unfold wthV; rw [if_pos (by rw [h1]; exact h)]⟩
    obtain ⟨EE, hEE⟩ : ∃ EE, chkV (layV p name y) 1 = EE := ⟨_, rfl⟩
    rw [hEE] at hk3
    have HQ := HPo.out EE hEE
    have HQ2 : Hid _ := HQ
    clear hEE HPo HQ HE
    have z0 : w9.cell? ⟨v0.heap.size, 0, none⟩ = some (.int .i64 (layV p name y).1.k) := HB9.out.cell 0
    have z1 : w9.cell? ⟨v0.heap.size, 1, none⟩ = some (.int .i64 (layV p name y).1.n) := HB9.out.cell 1
    have z2 : w9.cell? ⟨v0.heap.size, 2, none⟩ = some (.int .i64 (layV p name y).1.s) := HB9.out.cell 2
    have z3 : w9.cell? ⟨v0.heap.size, 3, none⟩ = some (.string (layV p name y).1.t) := HB9.out.cell 3
    have z4 : w9.cell? ⟨v0.heap.size, 4, none⟩ = some (.slice na8 (layV p name y).1.ns.length nc8) := HB9.out.cell 4
    have z5 : w9.cell? ⟨v0.heap.size, 5, none⟩ = some (.slice ka8 (layV p name y).2.list.length kc8) := HB9.out.cell 5
    generalize hLV : layV p name y = lv at *
    go_wp2_with fail
    refine hk3.out.mono ?_
    clear hk3 z0 z1 z2 z3 z4 z5
    rintro e w5 ⟨rfl, hb5⟩
    have HBf : Hid (Below w9.heap.size w9 w5) := hb5
    clear hb5
    have HCv : Hid (C w5) := CB.out _ _ HCw.out HBf.out
    clear HCw
    have HCw : Hid (C w5) := HCv.out
    by_cases hz : EE = 0
    case neg =>
      have HNo : Hid (wthE p name y = EE ∧ wthV p name y = nulV) := ⟨HQ2.out.1, HQ2.out.2.1 hz⟩
      have HBz : Hid (Blk w5 (W.heap.size + 1 + 1) 25 zer) := C3.out _ HCw.out
      go_wp2_with (refine st_all rfl 25 (.tmp 6) (.tmp 36) rfl (W.heap.size + 1 + 1) 25 zer zer rfl rfl HBz.out rfl s25 zer_one ?_)
      intro w8 b8 g8
      have HB8 : Hid (Blk w8 (W.heap.size + 1 + 1) 25 zer) := b8
      have HE8 : Hid (Below W.heap.size W w8) := (CE.out _ HCw.out).grown g8 (CE.out _ HCw.out).size (by intro x hx; injection hx with hx; omega)
      clear b8 g8
      go_wp2
      refine bodyPost_ret (res_two rfl _ (W.heap.size + 1 + 1) 25 _ _ rfl HB8.out Try.underlying25 rfl s25) rfl ?_
      have hno := HNo.out
      rw [hno.1, hno.2]
      exact ⟨none, 0, none, 0, rfl, nul_vl _, HE8.out⟩
    subst hz
    have HBz : Hid (Blk w5 (W.heap.size + 1 + 1) 25 zer) := C3.out _ HCw.out
    have b9 := HB9.out.below HBf.out HB9.out.lt
    have z0 : w5.cell? ⟨v0.heap.size, 0, none⟩ = some (.int .i64 lv.1.k) := b9.cell 0
    have z1 : w5.cell? ⟨v0.heap.size, 1, none⟩ = some (.int .i64 lv.1.n) := b9.cell 1
    have z2 : w5.cell? ⟨v0.heap.size, 2, none⟩ = some (.int .i64 lv.1.s) := b9.cell 2
    have z3 : w5.cell? ⟨v0.heap.size, 3, none⟩ = some (.string lv.1.t) := b9.cell 3
    have z4 : w5.cell? ⟨v0.heap.size, 4, none⟩ = some (.slice na8 lv.1.ns.length nc8) := b9.cell 4
    have z5 : w5.cell? ⟨v0.heap.size, 5, none⟩ = some (.slice ka8 lv.2.list.length kc8) := b9.cell 5
    clear b9
    go_wp2_with (refine st_all rfl 25 (.tmp 6) (.tmp 38) rfl (W.heap.size + 1 + 1) 25 zer (six lv.1 na8 nc8 ka8 lv.2.list.length kc8) rfl rfl HBz.out rfl s25 (six_one _ _ _ _ _ _) ?_)
    intro w8 b8 g8
    have HB8 : Hid (Blk w8 (W.heap.size + 1 + 1) 25 (six lv.1 na8 nc8 ka8 lv.2.list.length kc8)) := b8
    have HE8 : Hid (Vl w8 lv na8 nc8 ka8 kc8 ∧ Below W.heap.size W w8) := by
      obtain ⟨L, y1, y2⟩ := HV9.out
      have s1 := HBf.out.size
      refine ⟨((y1.keep fun x hx => HBf.out.block x (y2 x hx).2).keep fun x hx => g8.block x (by have := (y2 x hx).2; omega) (by intro c; injection c with c; have := (y2 x hx).1; omega)).vl, ?_⟩
      exact (CE.out _ HCw.out).grown g8 (CE.out _ HCw.out).size (by intro x hx; injection hx with hx; omega)
    clear b8 g8
    go_wp2
    refine bodyPost_ret (res_two rfl _ (W.heap.size + 1 + 1) 25 _ _ rfl HB8.out Try.underlying25 rfl s25) rfl ?_
    rw [HQ2.out.1, HQ2.out.2.2 (by first | rfl | trivial)]
    exact ⟨_, _, _, _, rfl, HE8.out⟩
end Go.Proofs.Ytiddlpjnfophhaa
