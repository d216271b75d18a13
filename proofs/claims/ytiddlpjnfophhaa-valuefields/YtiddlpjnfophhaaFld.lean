/-
  value.Field.
-/
import Derived.Test.YtiddlpjnfophhaaRis
namespace Go.Proofs.Ytiddlpjnfophhaa
open Go.RowKit
set_option linter.unusedVariables false
theorem zer_one : ∀ u ∈ zer, u.oneCell' = true := by
  intro u hu
  simp only [zer, List.mem_cons, List.not_mem_nil, or_false] at hu
  rcases hu with rfl | rfl | rfl | rfl | rfl | rfl <;> rfl
set_option maxRecDepth 8000 in
set_option maxHeartbeats 1000000 in
theorem vField (p : Vt) (name : ByteArray) (hp : chkV p 1 = 0) (hwf : WfV p) (hws : ws p ≤ 100000) (na : Option Addr) (nc : Nat) (ka : Option Addr) (kc : Nat) (W : World) (hv : Vl W p na nc ka kc) :
    Calls Try.prog 19 #[.agg #[.int .i64 p.1.k, .int .i64 p.1.n, .int .i64 p.1.s, .string p.1.t, .slice na p.1.ns.length nc, .slice ka p.2.list.length kc], .string name] W fun e w' => ∃ na' nc' ka' kc', e = .returned (.tuple #[.agg #[.int .i64 (fldV p name).1.k, .int .i64 (fldV p name).1.n, .int .i64 (fldV p name).1.s, .string (fldV p name).1.t, .slice na' (fldV p name).1.ns.length nc', .slice ka' (fldV p name).2.list.length kc'], .bool (hasF p name)]) ∧ Hid (Vl w' (fldV p name) na' nc' ka' kc' ∧ Below W.heap.size W w') := by
  obtain ⟨W2, HW2⟩ : ∃ W2, Hid ((W.alloc (.cells #[.int .i64 p.1.k, .int .i64 p.1.n, .int .i64 p.1.s, .string p.1.t, .slice na p.1.ns.length nc, .slice ka p.2.list.length kc] 25)).alloc (.cells #[.int .i64 0, .int .i64 0, .int .i64 0, .string ⟨#[]⟩, .slice none 0 0, .slice none 0 0] 25) = W2) := ⟨_, rfl⟩
  have hkl := hwf.2.1
  have hbW : Below W.heap.size W W2 := by rw [← HW2.out]; exact ((Below.refl _ _).alloc (Nat.le_refl _) _).alloc (by simp) _
  have HB1 : Hid (Blk W2 W.heap.size 25 (six p.1 na nc ka p.2.list.length kc)) := by rw [← HW2.out]; exact (blk_new W 25 (six p.1 na nc ka p.2.list.length kc)).alloc _
  have HB2 : Hid (Blk W2 (W.heap.size + 1) 25 zer) := by
    rw [← HW2.out]
    have h := blk_new (W.alloc (.cells #[.int .i64 p.1.k, .int .i64 p.1.n, .int .i64 p.1.s, .string p.1.t, .slice na p.1.ns.length nc, .slice ka p.2.list.length kc] 25)) 25 zer
    rw [show (W.alloc (.cells #[.int .i64 p.1.k, .int .i64 p.1.n, .int .i64 p.1.s, .string p.1.t, .slice na p.1.ns.length nc, .slice ka p.2.list.length kc] 25)).heap.size = W.heap.size + 1 by simp] at h
    exact h
  obtain ⟨C, hC⟩ : ∃ C : World → Prop, C = fun W' => Below W2.heap.size W2 W' := ⟨_, rfl⟩
  have CB : Hid (∀ W W', C W → Below W.heap.size W W' → C W') := fun W W' h hb => by rw [hC] at h ⊢; exact h.trans (hb.mono h.size)
  have HCw : Hid (C W2) := by rw [hC]; exact Below.refl _ _
  have CE : Hid (∀ W', C W' → Below W.heap.size W W') := fun W' h => by rw [hC] at h; exact hbW.trans (h.mono hbW.size)
  have C1 : Hid (∀ W', C W' → Blk W' W.heap.size 25 (six p.1 na nc ka p.2.list.length kc)) := fun W' h => by rw [hC] at h; exact HB1.out.below h HB1.out.lt
  have C2 : Hid (∀ W', C W' → Blk W' (W.heap.size + 1) 25 zer) := fun W' h => by rw [hC] at h; exact HB2.out.below h HB2.out.lt
  have HSz : Hid (∀ W', C W' → W.heap.size + 2 ≤ W'.heap.size) := fun W' h => by have := (C2.out W' h).lt; show _ ≤ _; omega
  have CV : Hid (∀ W', C W' → Vl W' p na nc ka kc) := fun W' h => hv.below (CE.out W' h)
  have hnl : p.1.ns.length ≤ 100000 := by simp only [ws, wsH] at hws; omega
  have k1 : Hid (∀ W', C W' → Calls Try.prog 25 #[.agg #[.int .i64 p.1.k, .int .i64 p.1.n, .int .i64 p.1.s, .string p.1.t, .slice na p.1.ns.length nc, .slice ka p.2.list.length kc]] W' fun e w' => e = .returned (.bool true) ∧ C w') := fun W' h => (isValue_any p hwf na nc ka kc W' (CV.out W' h)).mono fun e w' ⟨he, hb⟩ => ⟨by rw [he, hp]; rfl, CB.out _ _ h hb⟩
  by_cases h9 : p.1.k = 9
  case neg =>
    have HNo : Hid (hasF p name = false) := by show _ = _; simp [hasF, h9]
    have t9 : (p.1.k != 9) = true := by simpa using h9
    clear h9 hC hbW hv hwf hws hp
    go_enter Try.func19, Try.ntmps19
    go_wp2_with (generalize hWW : World.alloc (World.alloc W _) _ = W9; obtain rfl : W2 = W9 := (by rw [← hWW, ← HW2.out]); clear hWW HW2; refine st_all rfl 25 (.tmp 4) (.tmp 16) rfl (W.heap.size + 1) 25 zer zer rfl rfl HB2.out rfl s25 zer_one ?_)
    intro w8 b8 g8
    have HB8 : Hid (Blk w8 (W.heap.size + 1) 25 zer) := b8
    have HE8 : Hid (Below W.heap.size W w8) := (CE.out _ HCw.out).grown g8 (CE.out _ HCw.out).size (by intro x hx; injection hx with hx; omega)
    clear b8 g8
    go_wp2
    refine bodyPost_ret (res_two rfl _ (W.heap.size + 1) 25 _ _ rfl HB8.out Try.underlying25 rfl s25) rfl ?_
    have hno := HNo.out
    have e1 : fldV p name = nulV := by unfold fldV; rw [hno]; rfl
    first | rw [e1, hno] | rw [e1]
    exact ⟨none, 0, none, 0, rfl, nul_vl _, HE8.out⟩
  have hr := named_of hp h9
  have k2 : Hid (∀ W', C W' → Calls Try.prog 32 #[.slice na p.1.ns.length nc, .string name] W' fun e w' => e = .returned (.tuple #[.int .i64 (cnt p.1.ns name : Int), .bool (hasF p name)]) ∧ C w') := fun W' h => (bsearch na nc p.1.ns hnl W' (CV.out W' h).nms name (cnt p.1.ns name) (cnt_le _ _) (fun i x hx hi => cnt_lo hx hi) (fun i x hx hi => cnt_hi hr hx hi)).mono fun e w' ⟨t, he, hw, ht⟩ => by
    have ht2 : t = hasF p name := by rw [Bool.eq_iff_iff, ht.out]; simp [hasF, h9]
    exact ⟨by rw [he, ht2], by rw [hw]; exact h⟩
  have t9 : (p.1.k != 9) = false := by simpa using h9
  have HL9 : Hid (p.1.ns.length = p.2.list.length) := (good_of hp).ns h9
  have HWf : Hid (WfV p) := hwf
  have HWs : Hid (ws p ≤ 100000) := hws
  cases hh : hasF p name
  case false =>
    have HNo : Hid (hasF p name = false) := hh
    rw [hh] at k2
    clear h9 hC hbW hv hwf hws hp hr hh HWf HWs HL9
    generalize cnt p.1.ns name = K at *
    go_enter Try.func19, Try.ntmps19
    go_wp2_with fail
    generalize hWW : World.alloc (World.alloc W _) _ = W9
    obtain rfl : W2 = W9 := by rw [← hWW, ← HW2.out]
    clear hWW HW2
    refine (k1.out _ HCw.out).mono ?_
    clear HCw
    rintro e W3 ⟨rfl, hC7⟩
    have HCw : Hid (C W3) := hC7
    clear hC7
    have d4 : W3.cell? ⟨W.heap.size, 4, none⟩ = some (.slice na p.1.ns.length nc) := (C1.out _ HCw.out).cell 4
    go_wp2_with fail
    clear d4
    refine (k2.out _ HCw.out).mono ?_
    clear HCw
    rintro e W4 ⟨rfl, hC7⟩
    have HCw : Hid (C W4) := hC7
    clear hC7
    have HBz : Hid (Blk W4 (W.heap.size + 1) 25 zer) := C2.out _ HCw.out
    go_wp2_with (refine st_all rfl 25 (.tmp 4) (.tmp 26) rfl (W.heap.size + 1) 25 zer zer rfl rfl HBz.out rfl s25 zer_one ?_)
    intro w8 b8 g8
    have HB8 : Hid (Blk w8 (W.heap.size + 1) 25 zer) := b8
    have HE8 : Hid (Below W.heap.size W w8) := (CE.out _ HCw.out).grown g8 (CE.out _ HCw.out).size (by intro x hx; injection hx with hx; omega)
    clear b8 g8
    go_wp2
    refine bodyPost_ret (res_two rfl _ (W.heap.size + 1) 25 _ _ rfl HB8.out Try.underlying25 rfl s25) rfl ?_
    have hno := HNo.out
    have e1 : fldV p name = nulV := by unfold fldV; rw [hno]; rfl
    first | rw [e1, hno] | rw [e1]
    exact ⟨none, 0, none, 0, rfl, nul_vl _, HE8.out⟩
  have hk : p.1.ns[cnt p.1.ns name]? = some name := by
    have := hh
    simp only [hasF, decide_eq_true_eq] at this
    exact this.2
  have hkl2 : cnt p.1.ns name < p.2.list.length := by rw [← HL9.out]; exact (List.getElem?_eq_some_iff.1 hk).1
  obtain ⟨q, hq⟩ : ∃ q, p.2.list[cnt p.1.ns name]? = some q := ⟨_, List.getElem?_eq_getElem hkl2⟩
  have hfq : fldV p name = q := by unfold fldV; rw [hh, if_pos rfl, hq]; rfl
  rw [hfq]
  rw [hh] at k2
  obtain ⟨b, o, hka, na', nc', ka', kc', hnd0, hvl0⟩ := hv.slc.get hq
  have hnd : Hid (∀ W', C W' → Nd W' b (o + cnt p.1.ns name * 6) q.1 na' nc' ka' q.2.list.length kc') := fun W' h => hnd0.below (CE.out W' h)
  have k3 : Hid (∀ W', C W' → Calls Try.prog 33 #[.agg #[.int .i64 q.1.k, .int .i64 q.1.n, .int .i64 q.1.s, .string q.1.t, .slice na' q.1.ns.length nc', .slice ka' q.2.list.length kc']] W' fun e w' => ∃ na' nc' ka' kc', e = .returned (.agg #[.int .i64 q.1.k, .int .i64 q.1.n, .int .i64 q.1.s, .string q.1.t, .slice na' q.1.ns.length nc', .slice ka' q.2.list.length kc']) ∧ Hid ((∃ L, VlL w' q na' nc' ka' kc' L ∧ ∀ x ∈ L, W.heap.size + 2 ≤ x ∧ x < w'.heap.size) ∧ C w')) := fun W' h =>
    (copy_any _ q (Nat.le_refl _) (hwf.kid (List.mem_of_getElem? hq)) (by have h1 := ws_mem (List.mem_of_getElem? hq); simp only [ws] at h1 hws ⊢; omega) na' nc' ka' kc' W' (hvl0.below (CE.out W' h))).mono fun e w' ⟨a, b, c, d, he, hh⟩ => by
      obtain ⟨L, y1, y2, y3, y4⟩ := hh.out
      have y5 := HSz.out W' h
      exact ⟨a, b, c, d, he, ⟨L, y1, fun x hx => ⟨by have := (y2 x hx).1; omega, (y2 x hx).2⟩⟩, CB.out _ _ h y4⟩
  subst hka
  generalize cnt p.1.ns name = K at *
  clear h9 hC hbW hv hwf hws hp hr hh HWf HWs HL9 hk hfq hq hnd0 hvl0
  go_enter Try.func19, Try.ntmps19
  go_wp2_with fail
  generalize hWW : World.alloc (World.alloc W _) _ = W9
  obtain rfl : W2 = W9 := by rw [← hWW, ← HW2.out]
  clear hWW HW2
  refine (k1.out _ HCw.out).mono ?_
  clear HCw
  rintro e W3 ⟨rfl, hC7⟩
  have HCw : Hid (C W3) := hC7
  clear hC7
  have d4 : W3.cell? ⟨W.heap.size, 4, none⟩ = some (.slice na p.1.ns.length nc) := (C1.out _ HCw.out).cell 4
  go_wp2_with fail
  clear d4
  refine (k2.out _ HCw.out).mono ?_
  clear HCw
  rintro e W4 ⟨rfl, hC7⟩
  have HCw : Hid (C W4) := hC7
  clear hC7
  have d5 : W4.cell? ⟨W.heap.size, 5, none⟩ = some (.slice (some ⟨b, o, none⟩) p.2.list.length kc) := (C1.out _ HCw.out).cell 5
  obtain ⟨c0, c1, c2, c3, c4, c5⟩ := hnd.out W4 HCw.out
  go_wp2_with fail
  refine (k3.out _ HCw.out).mono ?_
  clear d5 c0 c1 c2 c3 c4 c5
  rintro e W5 ⟨na5, nc5, ka5, kc5, rfl, H5⟩
  have HV5 : Hid (∃ L, VlL W5 q na5 nc5 ka5 kc5 L ∧ ∀ x ∈ L, W.heap.size + 2 ≤ x ∧ x < W5.heap.size) := H5.out.1
  clear HCw
  have HCw : Hid (C W5) := H5.out.2
  clear H5
  have HBz : Hid (Blk W5 (W.heap.size + 1) 25 zer) := C2.out _ HCw.out
  go_wp2_with (refine st_all rfl 25 (.tmp 4) (.tmp 32) rfl (W.heap.size + 1) 25 zer (six q.1 na5 nc5 ka5 q.2.list.length kc5) rfl rfl HBz.out rfl s25 (six_one _ _ _ _ _ _) ?_)
  intro w8 b8 g8
  have HB8 : Hid (Blk w8 (W.heap.size + 1) 25 (six q.1 na5 nc5 ka5 q.2.list.length kc5)) := b8
  have HE8 : Hid (Below W.heap.size W w8 ∧ Vl w8 q na5 nc5 ka5 kc5) := by
    obtain ⟨L, y1, y2⟩ := HV5.out
    refine ⟨(CE.out _ HCw.out).grown g8 (CE.out _ HCw.out).size (by intro x hx; injection hx with hx; omega), (y1.keep fun x hx => ?_).vl⟩
    have := y2 x hx
    exact g8.block x this.2 (by intro c; injection c with c; omega)
  clear b8 g8
  go_wp2
  refine bodyPost_ret (res_two rfl _ (W.heap.size + 1) 25 _ _ rfl HB8.out Try.underlying25 rfl s25) rfl ?_
  exact ⟨na5, nc5, ka5, kc5, rfl, HE8.out.2, HE8.out.1⟩
end Go.Proofs.Ytiddlpjnfophhaa
