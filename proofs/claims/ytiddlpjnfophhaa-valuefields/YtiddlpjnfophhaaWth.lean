/-
  value.With.
-/
import Derived.Test.YtiddlpjnfophhaaTsm
namespace Go.Proofs.Ytiddlpjnfophhaa
open Go.RowKit
set_option linter.unusedVariables false
theorem nul_own (w : World) : VlL w nulV none 0 none 0 [] := ⟨[], [], rfl, .inl ⟨rfl, rfl⟩, ⟨by simp [nulV], fun _ => rfl, by omega⟩, ⟨by simp [nulV, Fo.list], fun _ => rfl, by omega⟩, .inl ⟨rfl, rfl⟩⟩
theorem layN_map {p : Vt} {name : ByteArray} (h : ¬ p.1.ns[cnt p.1.ns name]? = some name) : (layN p name).map Value.string = (p.1.ns.map Value.string).take (cnt p.1.ns name * 1) ++ ([Value.string name] ++ (p.1.ns.map Value.string).drop (cnt p.1.ns name * 1)) := by
  rw [Nat.mul_one]
  unfold layN
  rw [(layN_new h).1]
  simp [List.map_take, List.map_drop]
theorem own_shape {w : World} {B e size n : Nat} {v : Value} {xs : List Value} (h : w.ownsRow B e size v n xs) : ∃ a c, v = .slice a n c := by
  rcases h.2 with ⟨rfl, rfl⟩ | ⟨g, cap, cur, rfl, _⟩
  · exact ⟨none, 0, rfl⟩
  · exact ⟨_, cap, rfl⟩
set_option maxRecDepth 8000 in
set_option maxHeartbeats 2000000 in
theorem vWith (p y : Vt) (name : ByteArray) (hwf : WfV p) (hwy : WfV y) (hws : ws p ≤ 2500) (hwsy : ws y ≤ 2500) (hnm : name.size ≤ 500) (na : Option Addr) (nc : Nat) (ka : Option Addr) (kc : Nat) (na2 : Option Addr) (nc2 : Nat) (ka2 : Option Addr) (kc2 : Nat) (W : World) (hv : Vl W p na nc ka kc) (hv2 : Vl W y na2 nc2 ka2 kc2) :
    Calls Try.prog 21 #[.agg #[.int .i64 p.1.k, .int .i64 p.1.n, .int .i64 p.1.s, .string p.1.t, .slice na p.1.ns.length nc, .slice ka p.2.list.length kc], .string name, .agg #[.int .i64 y.1.k, .int .i64 y.1.n, .int .i64 y.1.s, .string y.1.t, .slice na2 y.1.ns.length nc2, .slice ka2 y.2.list.length kc2]] W fun e w' => ∃ na' nc' ka' kc', e = .returned (.tuple #[.agg #[.int .i64 (wthV p name y).1.k, .int .i64 (wthV p name y).1.n, .int .i64 (wthV p name y).1.s, .string (wthV p name y).1.t, .slice na' (wthV p name y).1.ns.length nc', .slice ka' (wthV p name y).2.list.length kc'], .int .i64 (wthE p name y)]) ∧ Hid (∃ L, VlL w' (wthV p name y) na' nc' ka' kc' L ∧ (∀ x ∈ L, W.heap.size ≤ x ∧ x < w'.heap.size) ∧ L.Nodup ∧ Below W.heap.size W w') := by
  obtain ⟨W3, HW3⟩ : ∃ W3, Hid (((W.alloc (.cells #[.int .i64 p.1.k, .int .i64 p.1.n, .int .i64 p.1.s, .string p.1.t, .slice na p.1.ns.length nc, .slice ka p.2.list.length kc] 25)).alloc (.cells #[.int .i64 y.1.k, .int .i64 y.1.n, .int .i64 y.1.s, .string y.1.t, .slice na2 y.1.ns.length nc2, .slice ka2 y.2.list.length kc2] 25)).alloc (.cells #[.int .i64 0, .int .i64 0, .int .i64 0, .string ⟨#[]⟩, .slice none 0 0, .slice none 0 0] 25) = W3) := ⟨_, rfl⟩
  have hkl := hwf.2.1
  have hkl2 := hwy.2.1
  have hnl : p.1.ns.length ≤ 2500 := by simp only [ws, wsH] at hws; omega
  have hpl : p.2.list.length ≤ 2500 := by have := len_ws p.2; simp only [ws] at hws; omega
  have hbW : Below W.heap.size W W3 := by rw [← HW3.out]; exact (((Below.refl _ _).alloc (Nat.le_refl _) _).alloc (by simp) _).alloc (by simp; omega) _
  have HB1 : Hid (Blk W3 W.heap.size 25 (six p.1 na nc ka p.2.list.length kc)) := by rw [← HW3.out]; exact ((blk_new W 25 (six p.1 na nc ka p.2.list.length kc)).alloc _).alloc _
  have HB2 : Hid (Blk W3 (W.heap.size + 1) 25 (six y.1 na2 nc2 ka2 y.2.list.length kc2)) := by
    rw [← HW3.out]
    have h := (blk_new (W.alloc (.cells #[.int .i64 p.1.k, .int .i64 p.1.n, .int .i64 p.1.s, .string p.1.t, .slice na p.1.ns.length nc, .slice ka p.2.list.length kc] 25)) 25 (six y.1 na2 nc2 ka2 y.2.list.length kc2)).alloc (.cells #[.int .i64 0, .int .i64 0, .int .i64 0, .string ⟨#[]⟩, .slice none 0 0, .slice none 0 0] 25)
    rw [show (W.alloc (.cells #[.int .i64 p.1.k, .int .i64 p.1.n, .int .i64 p.1.s, .string p.1.t, .slice na p.1.ns.length nc, .slice ka p.2.list.length kc] 25)).heap.size = W.heap.size + 1 by simp] at h
    exact h
  have HB3 : Hid (Blk W3 (W.heap.size + 1 + 1) 25 zer) := by
    rw [← HW3.out]
    have h := blk_new ((W.alloc (.cells #[.int .i64 p.1.k, .int .i64 p.1.n, .int .i64 p.1.s, .string p.1.t, .slice na p.1.ns.length nc, .slice ka p.2.list.length kc] 25)).alloc (.cells #[.int .i64 y.1.k, .int .i64 y.1.n, .int .i64 y.1.s, .string y.1.t, .slice na2 y.1.ns.length nc2, .slice ka2 y.2.list.length kc2] 25)) 25 zer
    rw [show ((W.alloc (.cells #[.int .i64 p.1.k, .int .i64 p.1.n, .int .i64 p.1.s, .string p.1.t, .slice na p.1.ns.length nc, .slice ka p.2.list.length kc] 25)).alloc (.cells #[.int .i64 y.1.k, .int .i64 y.1.n, .int .i64 y.1.s, .string y.1.t, .slice na2 y.1.ns.length nc2, .slice ka2 y.2.list.length kc2] 25)).heap.size = W.heap.size + 1 + 1 by simp] at h
    exact h
  obtain ⟨C, hC⟩ : ∃ C : World → Prop, C = fun W' => Below W3.heap.size W3 W' := ⟨_, rfl⟩
  have CB : Hid (∀ W W', C W → Below W.heap.size W W' → C W') := fun W W' h hb => by rw [hC] at h ⊢; exact h.trans (hb.mono h.size)
  have CX : Hid (∀ W W' B, C W → Below B W W' → W3.heap.size ≤ B → C W') := fun W W' B h hb hB => by rw [hC] at h ⊢; exact h.trans (hb.mono hB)
  have HCw : Hid (C W3) := by rw [hC]; exact Below.refl _ _
  have CE : Hid (∀ W', C W' → Below W.heap.size W W') := fun W' h => by rw [hC] at h; exact hbW.trans (h.mono hbW.size)
  have C1 : Hid (∀ W', C W' → Blk W' W.heap.size 25 (six p.1 na nc ka p.2.list.length kc)) := fun W' h => by rw [hC] at h; exact HB1.out.below h HB1.out.lt
  have C2 : Hid (∀ W', C W' → Blk W' (W.heap.size + 1) 25 (six y.1 na2 nc2 ka2 y.2.list.length kc2)) := fun W' h => by rw [hC] at h; exact HB2.out.below h HB2.out.lt
  have C3 : Hid (∀ W', C W' → Blk W' (W.heap.size + 1 + 1) 25 zer) := fun W' h => by rw [hC] at h; exact HB3.out.below h HB3.out.lt
  have HS3 : Hid (W3.heap.size = W.heap.size + 3) := by have := HW3.out; subst this; show _ = _; simp
  have HSz : Hid (∀ W', C W' → W.heap.size + 3 ≤ W'.heap.size) := fun W' h => by have := (C3.out W' h).lt; show _ ≤ _; omega
  have CV : Hid (∀ W', C W' → Vl W' p na nc ka kc) := fun W' h => hv.below (CE.out W' h)
  have CY : Hid (∀ W', C W' → Vl W' y na2 nc2 ka2 kc2) := fun W' h => hv2.below (CE.out W' h)
  by_cases h1 : chkV p 1 = 0
  case neg =>
    obtain ⟨E, hE⟩ : ∃ E, chkV p 1 = E := ⟨_, rfl⟩
    have HNo : Hid (wthE p name y = E ∧ wthV p name y = nulV) := by
      have e1 : wthE p name y = E := by unfold wthE; rw [if_pos h1, hE]
      exact ⟨e1, by unfold wthV; rw [if_neg (by rw [e1, ← hE]; exact h1)]⟩
    have k1 : Hid (∀ W', C W' → Calls Try.prog 11 #[.agg #[.int .i64 p.1.k, .int .i64 p.1.n, .int .i64 p.1.s, .string p.1.t, .slice na p.1.ns.length nc, .slice ka p.2.list.length kc]] W' fun e w' => e = .returned (.int .i64 E) ∧ C w') := fun W' h => (vCheck_any p hwf na nc ka kc W' (CV.out W' h)).mono fun e w' ⟨he, hb⟩ => ⟨by rw [he, hE], CB.out _ _ h hb⟩
    rw [hE] at h1
    clear hE hC hbW hv hv2 hwf hwy hws hwsy
    go_enter Try.func21, Try.ntmps21
    go_wp2_with fail
    generalize hWW : World.alloc (World.alloc (World.alloc W _) _) _ = W9
    obtain rfl : W3 = W9 := by rw [← hWW, ← HW3.out]
    clear hWW HW3
    refine (k1.out _ HCw.out).mono ?_
    clear HCw
    rintro e W4 ⟨rfl, hC7⟩
    have HCw : Hid (C W4) := hC7
    clear hC7
    have HBz : Hid (Blk W4 (W.heap.size + 1 + 1) 25 zer) := C3.out _ HCw.out
    go_wp2_with (refine st_all rfl 25 (.tmp 6) (.tmp 18) rfl (W.heap.size + 1 + 1) 25 zer zer rfl rfl HBz.out rfl s25 zer_one ?_)
    intro w8 b8 g8
    have HB8 : Hid (Blk w8 (W.heap.size + 1 + 1) 25 zer) := b8
    have HE8 : Hid (Below W.heap.size W w8) := (CE.out _ HCw.out).grown g8 (CE.out _ HCw.out).size (by intro x hx; injection hx with hx; omega)
    clear b8 g8
    go_wp2
    refine bodyPost_ret (res_two rfl _ (W.heap.size + 1 + 1) 25 _ _ rfl HB8.out Try.underlying25 rfl s25) rfl ?_
    have hno := HNo.out
    rw [hno.1, hno.2]
    exact ⟨none, 0, none, 0, rfl, [], nul_own _, (fun x hx => by cases hx), List.nodup_nil, HE8.out⟩
  have k1 : Hid (∀ W', C W' → Calls Try.prog 11 #[.agg #[.int .i64 p.1.k, .int .i64 p.1.n, .int .i64 p.1.s, .string p.1.t, .slice na p.1.ns.length nc, .slice ka p.2.list.length kc]] W' fun e w' => e = .returned (.int .i64 0) ∧ C w') := fun W' h => (vCheck_any p hwf na nc ka kc W' (CV.out W' h)).mono fun e w' ⟨he, hb⟩ => ⟨by rw [he, h1], CB.out _ _ h hb⟩
  by_cases h9 : p.1.k = 9
  case neg =>
    have HNo : Hid (wthE p name y = 11 ∧ wthV p name y = nulV) := by
      have e1 : wthE p name y = 11 := by unfold wthE; rw [if_neg (by simp [h1]), if_pos h9]
      exact ⟨e1, by unfold wthV; rw [if_neg (by rw [e1]; decide)]⟩
    have t9 : (p.1.k != 9) = true := by simpa using h9
    clear h9 hC hbW hv hv2 hwf hwy hws hwsy h1
    go_enter Try.func21, Try.ntmps21
    go_wp2_with fail
    generalize hWW : World.alloc (World.alloc (World.alloc W _) _) _ = W9
    obtain rfl : W3 = W9 := by rw [← hWW, ← HW3.out]
    clear hWW HW3
    refine (k1.out _ HCw.out).mono ?_
    clear HCw
    rintro e W4 ⟨rfl, hC7⟩
    have HCw : Hid (C W4) := hC7
    clear hC7
    have d0 : W4.cell? ⟨W.heap.size, 0, none⟩ = some (.int .i64 p.1.k) := (C1.out _ HCw.out).cell 0
    have HBz : Hid (Blk W4 (W.heap.size + 1 + 1) 25 zer) := C3.out _ HCw.out
    go_wp2_with (refine st_all rfl 25 (.tmp 6) (.tmp 23) rfl (W.heap.size + 1 + 1) 25 zer zer rfl rfl HBz.out rfl s25 zer_one ?_)
    intro w8 b8 g8
    have HB8 : Hid (Blk w8 (W.heap.size + 1 + 1) 25 zer) := b8
    have HE8 : Hid (Below W.heap.size W w8) := (CE.out _ HCw.out).grown g8 (CE.out _ HCw.out).size (by intro x hx; injection hx with hx; omega)
    clear b8 g8
    go_wp2
    refine bodyPost_ret (res_two rfl _ (W.heap.size + 1 + 1) 25 _ _ rfl HB8.out Try.underlying25 rfl s25) rfl ?_
    have hno := HNo.out
    rw [hno.1, hno.2]
    exact ⟨none, 0, none, 0, rfl, [], nul_own _, (fun x hx => by cases hx), List.nodup_nil, HE8.out⟩
  have t9 : (p.1.k != 9) = false := by simpa using h9
  by_cases h2 : chkV y 1 = 0
  case neg =>
    obtain ⟨E, hE⟩ : ∃ E, chkV y 1 = E := ⟨_, rfl⟩
    have HNo : Hid (wthE p name y = E ∧ wthV p name y = nulV) := by
      have e1 : wthE p name y = E := by unfold wthE; rw [if_neg (by simp [h1]), if_neg (by simp [h9]), if_pos h2, hE]
      exact ⟨e1, by unfold wthV; rw [if_neg (by rw [e1, ← hE]; exact h2)]⟩
    have k2 : Hid (∀ W', C W' → Calls Try.prog 11 #[.agg #[.int .i64 y.1.k, .int .i64 y.1.n, .int .i64 y.1.s, .string y.1.t, .slice na2 y.1.ns.length nc2, .slice ka2 y.2.list.length kc2]] W' fun e w' => e = .returned (.int .i64 E) ∧ C w') := fun W' h => (vCheck_any y hwy na2 nc2 ka2 kc2 W' (CY.out W' h)).mono fun e w' ⟨he, hb⟩ => ⟨by rw [he, hE], CB.out _ _ h hb⟩
    rw [hE] at h2
    clear hE h9 hC hbW hv hv2 hwf hwy hws hwsy h1
    go_enter Try.func21, Try.ntmps21
    go_wp2_with fail
    generalize hWW : World.alloc (World.alloc (World.alloc W _) _) _ = W9
    obtain rfl : W3 = W9 := by rw [← hWW, ← HW3.out]
    clear hWW HW3
    refine (k1.out _ HCw.out).mono ?_
    clear HCw
    rintro e W4 ⟨rfl, hC7⟩
    have HCw : Hid (C W4) := hC7
    clear hC7
    have d0 : W4.cell? ⟨W.heap.size, 0, none⟩ = some (.int .i64 p.1.k) := (C1.out _ HCw.out).cell 0
    have f0 : W4.cell? ⟨W.heap.size + 1, 0, none⟩ = some (.int .i64 y.1.k) := (C2.out _ HCw.out).cell 0
    have f1 : W4.cell? ⟨W.heap.size + 1, 1, none⟩ = some (.int .i64 y.1.n) := (C2.out _ HCw.out).cell 1
    have f2 : W4.cell? ⟨W.heap.size + 1, 2, none⟩ = some (.int .i64 y.1.s) := (C2.out _ HCw.out).cell 2
    have f3 : W4.cell? ⟨W.heap.size + 1, 3, none⟩ = some (.string y.1.t) := (C2.out _ HCw.out).cell 3
    have f4 : W4.cell? ⟨W.heap.size + 1, 4, none⟩ = some (.slice na2 y.1.ns.length nc2) := (C2.out _ HCw.out).cell 4
    have f5 : W4.cell? ⟨W.heap.size + 1, 5, none⟩ = some (.slice ka2 y.2.list.length kc2) := (C2.out _ HCw.out).cell 5
    go_wp2_with fail
    clear d0 f0 f1 f2 f3 f4 f5
    refine (k2.out _ HCw.out).mono ?_
    clear HCw
    rintro e W5 ⟨rfl, hC7⟩
    have HCw : Hid (C W5) := hC7
    clear hC7
    have HBz : Hid (Blk W5 (W.heap.size + 1 + 1) 25 zer) := C3.out _ HCw.out
    go_wp2_with (refine st_all rfl 25 (.tmp 6) (.tmp 28) rfl (W.heap.size + 1 + 1) 25 zer zer rfl rfl HBz.out rfl s25 zer_one ?_)
    intro w8 b8 g8
    have HB8 : Hid (Blk w8 (W.heap.size + 1 + 1) 25 zer) := b8
    have HE8 : Hid (Below W.heap.size W w8) := (CE.out _ HCw.out).grown g8 (CE.out _ HCw.out).size (by intro x hx; injection hx with hx; omega)
    clear b8 g8
    go_wp2
    refine bodyPost_ret (res_two rfl _ (W.heap.size + 1 + 1) 25 _ _ rfl HB8.out Try.underlying25 rfl s25) rfl ?_
    have hno := HNo.out
    rw [hno.1, hno.2]
    exact ⟨none, 0, none, 0, rfl, [], nul_own _, (fun x hx => by cases hx), List.nodup_nil, HE8.out⟩
  have k2 : Hid (∀ W', C W' → Calls Try.prog 11 #[.agg #[.int .i64 y.1.k, .int .i64 y.1.n, .int .i64 y.1.s, .string y.1.t, .slice na2 y.1.ns.length nc2, .slice ka2 y.2.list.length kc2]] W' fun e w' => e = .returned (.int .i64 0) ∧ C w') := fun W' h => (vCheck_any y hwy na2 nc2 ka2 kc2 W' (CY.out W' h)).mono fun e w' ⟨he, hb⟩ => ⟨by rw [he, h2], CB.out _ _ h hb⟩
  have HE : Hid (wthE p name y = chkV (layV p name y) 1) := by
    show _ = _
    unfold wthE
    rw [if_neg (by simp [h1]), if_neg (by simp [h9]), if_neg (by simp [h2])]
  have hr := named_of h1 h9
  have HNK : Hid (p.1.ns.length = p.2.list.length) := (good_of h1).ns h9
  have HLW : Hid (WfV (layV p name y)) := lay_wf hwf hwy hnm (by omega) (by omega)
  have kB : Hid (∀ (W' : World) (na' : Option Addr) (nc' : Nat), Nms W' na' p.1.ns → Calls Try.prog 32 #[.slice na' p.1.ns.length nc', .string name] W' fun e w' => e = .returned (.tuple #[.int .i64 (cnt p.1.ns name : Int), .bool (decide (p.1.ns[cnt p.1.ns name]? = some name))]) ∧ w' = W') := fun W' na' nc' hn => (bsearch na' nc' p.1.ns (by omega) W' hn name (cnt p.1.ns name) (cnt_le _ _) (fun i x hx hi => cnt_lo hx hi) (fun i x hx hi => cnt_hi hr hx hi)).mono fun e w' ⟨t, he, hw, ht⟩ => by
    have ht2 : t = decide (p.1.ns[cnt p.1.ns name]? = some name) := by rw [Bool.eq_iff_iff, ht.out]; simp
    exact ⟨by rw [he, ht2], hw⟩
  have kC : Hid (∀ W', C W' → Calls Try.prog 33 #[.agg #[.int .i64 p.1.k, .int .i64 p.1.n, .int .i64 p.1.s, .string p.1.t, .slice na p.1.ns.length nc, .slice ka p.2.list.length kc]] W' fun e w' => ∃ na' nc' ka' kc', e = .returned (.agg #[.int .i64 p.1.k, .int .i64 p.1.n, .int .i64 p.1.s, .string p.1.t, .slice na' p.1.ns.length nc', .slice ka' p.2.list.length kc']) ∧ Hid (C w' ∧ ∃ Ln ks L, Top w' (W'.heap.size + 2) p na' nc' ka' kc' Ln ks L)) := fun W' h => (copy_top p hwf (by omega) na nc ka kc W' (CV.out W' h)).mono fun e w' ⟨a, b, c, d, he, hh⟩ => by
    obtain ⟨L, y1, y2, y3, y4, y5⟩ := hh.out
    exact ⟨a, b, c, d, he, CB.out _ _ h y4, y5⟩
  have HWy : Hid (WfV y) := hwy
  have HWs : Hid (ws p ≤ 2500 ∧ ws y ≤ 2500) := ⟨hws, hwsy⟩
  clear h1 h9 h2 hC hbW hv hv2 hwf hwy hws hwsy hr
  go_enter Try.func21, Try.ntmps21
  go_wp2_with fail
  generalize hWW : World.alloc (World.alloc (World.alloc W _) _) _ = W9
  obtain rfl : W3 = W9 := by rw [← hWW, ← HW3.out]
  clear hWW HW3
  refine (k1.out _ HCw.out).mono ?_
  clear HCw
  rintro e W4 ⟨rfl, hC7⟩
  have HCw : Hid (C W4) := hC7
  clear hC7
  have d0 : W4.cell? ⟨W.heap.size, 0, none⟩ = some (.int .i64 p.1.k) := (C1.out _ HCw.out).cell 0
  have f0 : W4.cell? ⟨W.heap.size + 1, 0, none⟩ = some (.int .i64 y.1.k) := (C2.out _ HCw.out).cell 0
  have f1 : W4.cell? ⟨W.heap.size + 1, 1, none⟩ = some (.int .i64 y.1.n) := (C2.out _ HCw.out).cell 1
  have f2 : W4.cell? ⟨W.heap.size + 1, 2, none⟩ = some (.int .i64 y.1.s) := (C2.out _ HCw.out).cell 2
  have f3 : W4.cell? ⟨W.heap.size + 1, 3, none⟩ = some (.string y.1.t) := (C2.out _ HCw.out).cell 3
  have f4 : W4.cell? ⟨W.heap.size + 1, 4, none⟩ = some (.slice na2 y.1.ns.length nc2) := (C2.out _ HCw.out).cell 4
  have f5 : W4.cell? ⟨W.heap.size + 1, 5, none⟩ = some (.slice ka2 y.2.list.length kc2) := (C2.out _ HCw.out).cell 5
  go_wp2_with fail
  clear d0 f0 f1 f2 f3 f4 f5
  refine (k2.out _ HCw.out).mono ?_
  clear HCw
  rintro e W5 ⟨rfl, hC7⟩
  have HCw : Hid (C W5) := hC7
  clear hC7
  have d0 : W5.cell? ⟨W.heap.size, 0, none⟩ = some (.int .i64 p.1.k) := (C1.out _ HCw.out).cell 0
  have d1 : W5.cell? ⟨W.heap.size, 1, none⟩ = some (.int .i64 p.1.n) := (C1.out _ HCw.out).cell 1
  have d2 : W5.cell? ⟨W.heap.size, 2, none⟩ = some (.int .i64 p.1.s) := (C1.out _ HCw.out).cell 2
  have d3 : W5.cell? ⟨W.heap.size, 3, none⟩ = some (.string p.1.t) := (C1.out _ HCw.out).cell 3
  have d4 : W5.cell? ⟨W.heap.size, 4, none⟩ = some (.slice na p.1.ns.length nc) := (C1.out _ HCw.out).cell 4
  have d5 : W5.cell? ⟨W.heap.size, 5, none⟩ = some (.slice ka p.2.list.length kc) := (C1.out _ HCw.out).cell 5
  go_wp2_with fail
  refine (kC.out _ HCw.out).mono ?_
  clear d0 d1 d2 d3 d4 d5
  rintro e W6 ⟨na', nc', ka', kc', rfl, H6⟩
  obtain ⟨W7, HW7⟩ : ∃ W7, Hid (W6.alloc (.cells #[.int .i64 p.1.k, .int .i64 p.1.n, .int .i64 p.1.s, .string p.1.t, .slice na' p.1.ns.length nc', .slice ka' p.2.list.length kc'] 25) = W7) := ⟨_, rfl⟩
  have HC6 : Hid (C W6) := H6.out.1
  obtain ⟨Ln, ks, L, HT7⟩ : ∃ Ln ks L, Hid (Tst (W.heap.size + 3) p W6.heap.size p.1.ns na' nc' p.2.list.length ka' kc' ks ks L W7) := by
    obtain ⟨Ln, ks, L, ht⟩ := H6.out.2
    have s5 := HSz.out _ HCw.out
    have s6 := HSz.out _ HC6.out
    refine ⟨Ln, ks, L, ?_⟩
    exact Tst.start ht (by omega) s6 HW7.out.symm
  have HC7 : Hid (C W7) := by
    have := CB.out _ W7 HC6.out (by rw [← HW7.out]; exact (Below.refl _ _).alloc (Nat.le_refl _) _)
    exact this
  clear H6 HCw HC6
  have HCw : Hid (C W7) := HC7.out
  go_wp2_with fail
  generalize hWW : World.alloc W6 _ = W9
  obtain rfl : W7 = W9 := by rw [← hWW, ← HW7.out]
  clear hWW HW7
  refine (kB.out W7 na' nc' (by obtain ⟨a, b, c, e, hnm, _⟩ := nml_of HT7.out.ownN; injection e with e1 _ e3; subst e1; exact hnm.nms)).mono ?_
  rintro e w7' ⟨rfl, rfl⟩
  by_cases hh : p.1.ns[cnt p.1.ns name]? = some name
  case pos =>
    rw [show decide (p.1.ns[cnt p.1.ns name]? = some name) = true by simpa using hh]
    obtain ⟨g, c1, m, c3, sp, L1, L3, hka, hM⟩ := HT7.out.mst_has HNK.out hh
    subst hka
    have HM : Hid (Mst (W.heap.size + 3) p name W6.heap.size na' nc' g kc' c1 m c3 sp L1 L3 w7') := hM
    clear hM hh HT7
    go_wp2
    have HC0 : Hid (C w7') := HCw.out
    obtain ⟨D, hD⟩ : ∃ D : World → Prop, D = fun W' => Below w7'.heap.size w7' W' := ⟨_, rfl⟩
    have DD : Hid (∀ W, D W → D { W with drawn := W.drawn + 1 }) := fun W h => by rw [hD] at h ⊢; exact h.drew
    have DB : Hid (∀ W W', D W → Below W.heap.size W W' → D W') := fun W W' h hb => by rw [hD] at h ⊢; exact h.trans (hb.mono h.size)
    have DE : Hid (∀ W', D W' → Below w7'.heap.size w7' W') := fun W' h => by rw [hD] at h; exact h
    have HDw : Hid (D w7') := by rw [hD]; exact Below.refl _ _
    have hKl : cnt p.1.ns name < (layN p name).length := by
      have := cnt_le p.1.ns name
      simp only [layN, List.length_append, List.length_take, List.length_cons]
      omega
    have hLN : (layN p name).length ≤ 100000 := by
      have := lyT_le p name
      simp only [layN, List.length_append, List.length_take, List.length_cons, List.length_drop]
      omega
    have S8 : Hid (∀ W', D W' → W'.cell? ⟨W6.heap.size, 5, none⟩ = some (.slice (some ⟨g, 0, none⟩) (layN p name).length kc')) := fun W' h => (HM.out.b4.below (DE.out W' h) HM.out.b4.lt).cell 5
    have N8 : Hid (∀ W', D W' → Nd W' (W.heap.size + 1) 0 y.1 na2 nc2 ka2 y.2.list.length kc2) := fun W' h => nd_six fun j u hj => by
      rw [Nat.zero_add, (C2.out _ (CB.out _ _ HC0.out (DE.out W' h))).cell]
      exact hj
    have G8 : Hid (∀ W', D W' → Blk W' g 25 (c1 ++ (m ++ (c3 ++ sp)))) := fun W' h => HM.out.row.below (DE.out W' h) HM.out.row.lt
    have K8 : Hid (∀ W', D W' → Calls Try.prog 33 #[.agg #[.int .i64 y.1.k, .int .i64 y.1.n, .int .i64 y.1.s, .string y.1.t, .slice na2 y.1.ns.length nc2, .slice ka2 y.2.list.length kc2]] W' fun e w' => ∃ v, e = .returned v ∧ ∃ na5 nc5 ka5 kc5, v = .agg #[.int .i64 y.1.k, .int .i64 y.1.n, .int .i64 y.1.s, .string y.1.t, .slice na5 y.1.ns.length nc5, .slice ka5 y.2.list.length kc5] ∧ Hid (D w' ∧ ∃ Lq, VlL w' y na5 nc5 ka5 kc5 Lq ∧ (∀ x ∈ Lq, w7'.heap.size ≤ x ∧ x < w'.heap.size) ∧ Lq.Nodup)) := fun W' h => by
      have hw1 := DE.out W' h
      refine (copy_any _ y (Nat.le_refl _) HWy.out (by have := HWs.out.2; omega) na2 nc2 ka2 kc2 W' (CY.out _ (CB.out _ _ HC0.out hw1))).mono ?_
      rintro e w' ⟨na5, nc5, ka5, kc5, rfl, H5⟩
      obtain ⟨Lq, y1, y2, y3, y4⟩ := H5.out
      have := hw1.size
      exact ⟨_, rfl, na5, nc5, ka5, kc5, rfl, DB.out _ _ h y4, Lq, y1, (fun x hx => ⟨by have := (y2 x hx).1; omega, (y2 x hx).2⟩), y3⟩
    have HL : Hid (c1.length = cnt p.1.ns name * 6 ∧ m.length = 6) := ⟨HM.out.lc, HM.out.lm⟩
    clear hD
    generalize cnt p.1.ns name = K at *
    refine region_calm D 6 (by kernel_rfl) ?_
    have hCp : ∀ p : Prop, (∀ W, D W → p) ↔ p := fun p => ⟨fun h => h _ HDw.out, fun h _ _ => h⟩
    have HDx := DD.out _ HDw.out
    generalize ({ w7' with drawn := w7'.drawn + 1 } : World) = W0 at *
    have HD0 : Hid (D W0) := HDx
    clear HDx
    refine seg 3 [0, 1, 2, 3] rfl (by kernel_rfl) whole_blind HD0.out (by kernel_rfl) ?_
    change wpQuiet _ _ _ _ (_ :: _ :: _ :: _ :: []) _
    repeat (first
      | go_big_quiet_skip
      | (go_big_quiet_want
         first
         | (refine q_slice 23 (.tmp 55) rfl W6.heap.size 5 rfl _ _ _ (by simp) S8.out ?_
            simp only [Act.put, List.setIfInBounds_toArray, List.set_cons_zero, List.set_cons_succ]
            go_big_quiet_on)
         | (refine q_val (.tmp 5) rfl (W.heap.size + 1) 0 rfl _ _ _ _ _ _ N8.out ?_
            simp only [Act.put, List.setIfInBounds_toArray, List.set_cons_zero, List.set_cons_succ]
            go_big_quiet_on)
         | (go_big_quiet_op
            go_big_quiet_on)))
    refine wpQuiet_nil ?_
    refine lone_do (i := 4) 2 rfl (by kernel_rfl) rfl (by rfl) ?_
    intro K' hK'
    refine oper_calls 33 #[.tmp 58] #[25] rfl #[.agg #[.int .i64 y.1.k, .int .i64 y.1.n, .int .i64 y.1.s, .string y.1.t, .slice na2 y.1.ns.length nc2, .slice ka2 y.2.list.length kc2]] (by rw [List.map_toArray]; rfl) enters33 _ (K8.out _ HD0.out) ?_
    rintro v w1 ⟨na5, nc5, ka5, kc5, rfl, H5⟩
    refine hK' _ _ H5.out.1 ?_
    clear hK' K'
    simp only [Act.put, List.setIfInBounds_toArray, List.set_cons_zero, List.set_cons_succ]
    refine lone_calm (i := 5) 1 rfl (by kernel_rfl) rfl rfl H5.out.1 ?_
    go_big_quiet_want
    go_big_quiet_op
    go_big_quiet_on
    refine wpQuiet_nil ?_
    refine lone_last (i := 6) 0 rfl rfl (by kernel_rfl) rfl (by rfl) ?_
    intro K' hK'
    refine oper_row 25 (.tmp 60) (.tmp 59) rfl g (K * 6) 25 c1 m (c3 ++ sp) (six y.1 na5 nc5 ka5 y.2.list.length kc5) rfl rfl HL.out.1 (G8.out _ H5.out.1) (by rw [HL.out.2]; rfl) s25 (six_one _ _ _ _ _ _) ?_
    intro w3 b3 g3
    refine hK' _ _ ?_
    clear hK' K'
    have HX : Hid ((Blk w3 W6.heap.size 25 (six (layV p name y).1 na' nc' (some ⟨g, 0, none⟩) (layV p name y).2.list.length kc') ∧ ∃ L, VlL w3 (layV p name y) na' nc' (some ⟨g, 0, none⟩) kc' L ∧ (∀ x ∈ L, W.heap.size + 3 ≤ x ∧ x < w3.heap.size) ∧ L.Nodup) ∧ C w3) := by
      obtain ⟨y0, Lq, y1, y2, y3⟩ := H5.out
      refine ⟨HM.out.done HNK.out (DE.out _ y0) y1 y2 y3 g3 b3, ?_⟩
      have hw := CB.out _ _ HC0.out (DE.out _ y0)
      have hlo := HM.out.lo.2
      have hs3 := HS3.out
      exact CX.out w1 w3 W3.heap.size hw ((Below.refl _ _).grown g3 (by have := HSz.out _ hw; omega) (by intro x hx; injection hx with hx; omega)) (Nat.le_refl _)
    clear b3 g3 H5 HM S8 N8 G8 K8 HL HD0 DD DB DE HDw hCp HCw HC0 hKl hLN
    have HCw : Hid (C w3) := HX.out.2
    have HV9 : Hid (∃ L, VlL w3 (layV p name y) na' nc' (some ⟨g, 0, none⟩) kc' L ∧ (∀ x ∈ L, W.heap.size + 3 ≤ x ∧ x < w3.heap.size) ∧ L.Nodup) := HX.out.1.2
    have HB9 : Hid (Blk w3 W6.heap.size 25 (six (layV p name y).1 na' nc' (some ⟨g, 0, none⟩) (layV p name y).2.list.length kc')) := HX.out.1.1
    have hk3 : Hid (Calls Try.prog 11 #[.agg (six (layV p name y).1 na' nc' (some ⟨g, 0, none⟩) (layV p name y).2.list.length kc').toArray] w3 fun e w' => e = .returned (.int .i64 (chkV (layV p name y) 1)) ∧ Below w3.heap.size w3 w') := by
      obtain ⟨L, y1, _⟩ := HV9.out
      exact vCheck_any _ HLW.out na' nc' (some ⟨g, 0, none⟩) kc' w3 y1.vl
    clear HX
    have hll : (layV p name y).2.list.length ≤ 140737488355328 := HLW.out.2.1
    refine anyC_done (by kernel_rfl) ⟨rfl, ?_⟩
    simp only [Act.put]
    have HPo : Hid (∀ e : Int, chkV (layV p name y) 1 = e → wthE p name y = e ∧ (e ≠ 0 → wthV p name y = nulV) ∧ (e = 0 → wthV p name y = layV p name y)) := fun e he => by
      have h1 := HE.out
      rw [he] at h1
      exact ⟨h1, fun h => by unfold wthV; rw [if_neg (by rw [h1]; exact h)], fun h => by unfold wthV; rw [if_pos (by rw [h1]; exact h)]⟩
    obtain ⟨EE, hEE⟩ : ∃ EE, chkV (layV p name y) 1 = EE := ⟨_, rfl⟩
    rw [hEE] at hk3
    have HQ := HPo.out EE hEE
    have HQ2 : Hid _ := HQ
    clear hEE HPo HQ HE
    have z0 : w3.cell? ⟨W6.heap.size, 0, none⟩ = some (.int .i64 (layV p name y).1.k) := HB9.out.cell 0
    have z1 : w3.cell? ⟨W6.heap.size, 1, none⟩ = some (.int .i64 (layV p name y).1.n) := HB9.out.cell 1
    have z2 : w3.cell? ⟨W6.heap.size, 2, none⟩ = some (.int .i64 (layV p name y).1.s) := HB9.out.cell 2
    have z3 : w3.cell? ⟨W6.heap.size, 3, none⟩ = some (.string (layV p name y).1.t) := HB9.out.cell 3
    have z4 : w3.cell? ⟨W6.heap.size, 4, none⟩ = some (.slice na' (layV p name y).1.ns.length nc') := HB9.out.cell 4
    have z5 : w3.cell? ⟨W6.heap.size, 5, none⟩ = some (.slice (some ⟨g, 0, none⟩) (layV p name y).2.list.length kc') := HB9.out.cell 5
    generalize hLV : layV p name y = lv at *
    go_wp2_with fail
    refine hk3.out.mono ?_
    clear hk3 z0 z1 z2 z3 z4 z5
    rintro e w5 ⟨rfl, hb5⟩
    have HB5 : Hid (Below w3.heap.size w3 w5) := hb5
    clear hb5
    have HCv : Hid (C w5) := CB.out _ _ HCw.out HB5.out
    clear HCw
    have HCw : Hid (C w5) := HCv.out
    by_cases hz : EE = 0
    case neg =>
      have HNo : Hid (wthE p name y = EE ∧ wthV p name y = nulV) := ⟨HQ2.out.1, HQ2.out.2.1 hz⟩
      have HBz : Hid (Blk w5 (W.heap.size + 1 + 1) 25 zer) := C3.out _ HCw.out
      go_wp2_with (refine st_all rfl 25 (.tmp 6) (.tmp 65) rfl (W.heap.size + 1 + 1) 25 zer zer rfl rfl HBz.out rfl s25 zer_one ?_)
      intro w8 b8 g8
      have HB8 : Hid (Blk w8 (W.heap.size + 1 + 1) 25 zer) := b8
      have HE8 : Hid (Below W.heap.size W w8) := (CE.out _ HCw.out).grown g8 (CE.out _ HCw.out).size (by intro x hx; injection hx with hx; omega)
      clear b8 g8
      go_wp2
      refine bodyPost_ret (res_two rfl _ (W.heap.size + 1 + 1) 25 _ _ rfl HB8.out Try.underlying25 rfl s25) rfl ?_
      have hno := HNo.out
      rw [hno.1, hno.2]
      exact ⟨none, 0, none, 0, rfl, [], nul_own _, (fun x hx => by cases hx), List.nodup_nil, HE8.out⟩
    subst hz
    have HBz : Hid (Blk w5 (W.heap.size + 1 + 1) 25 zer) := C3.out _ HCw.out
    have b9 := HB9.out.below HB5.out HB9.out.lt
    have z0 : w5.cell? ⟨W6.heap.size, 0, none⟩ = some (.int .i64 lv.1.k) := b9.cell 0
    have z1 : w5.cell? ⟨W6.heap.size, 1, none⟩ = some (.int .i64 lv.1.n) := b9.cell 1
    have z2 : w5.cell? ⟨W6.heap.size, 2, none⟩ = some (.int .i64 lv.1.s) := b9.cell 2
    have z3 : w5.cell? ⟨W6.heap.size, 3, none⟩ = some (.string lv.1.t) := b9.cell 3
    have z4 : w5.cell? ⟨W6.heap.size, 4, none⟩ = some (.slice na' lv.1.ns.length nc') := b9.cell 4
    have z5 : w5.cell? ⟨W6.heap.size, 5, none⟩ = some (.slice (some ⟨g, 0, none⟩) lv.2.list.length kc') := b9.cell 5
    clear b9
    go_wp2_with (refine st_all rfl 25 (.tmp 6) (.tmp 67) rfl (W.heap.size + 1 + 1) 25 zer (six lv.1 na' nc' (some ⟨g, 0, none⟩) lv.2.list.length kc') rfl rfl HBz.out rfl s25 (six_one _ _ _ _ _ _) ?_)
    intro w8 b8 g8
    have HB8 : Hid (Blk w8 (W.heap.size + 1 + 1) 25 (six lv.1 na' nc' (some ⟨g, 0, none⟩) lv.2.list.length kc')) := b8
    have HE8 : Hid (∃ L, VlL w8 lv na' nc' (some ⟨g, 0, none⟩) kc' L ∧ (∀ x ∈ L, W.heap.size ≤ x ∧ x < w8.heap.size) ∧ L.Nodup ∧ Below W.heap.size W w8) := by
      obtain ⟨L, y1, y2, y3⟩ := HV9.out
      have s1 := HB5.out.size
      have s2 := g8.size
      refine ⟨L, (y1.keep fun x hx => HB5.out.block x (y2 x hx).2).keep fun x hx => g8.block x (by have := (y2 x hx).2; omega) (by intro c; injection c with c; have := (y2 x hx).1; omega), fun x hx => by have := y2 x hx; omega, y3, ?_⟩
      exact (CE.out _ HCw.out).grown g8 (CE.out _ HCw.out).size (by intro x hx; injection hx with hx; omega)
    clear b8 g8
    go_wp2
    refine bodyPost_ret (res_two rfl _ (W.heap.size + 1 + 1) 25 _ _ rfl HB8.out Try.underlying25 rfl s25) rfl ?_
    rw [HQ2.out.1, HQ2.out.2.2 (by first | rfl | trivial)]
    exact ⟨_, _, _, _, rfl, HE8.out⟩
  rw [show decide (p.1.ns[cnt p.1.ns name]? = some name) = false by simpa using hh]
  have HNh : Hid (¬ p.1.ns[cnt p.1.ns name]? = some name) := hh
  clear hh
  have d4 : w7'.cell? ⟨W6.heap.size, 4, none⟩ = some (.slice na' p.1.ns.length nc') := HT7.out.b4.cell 4
  obtain ⟨W8, HW8⟩ : ∃ W8, Hid (w7'.alloc (.cells #[.string name] 9) = W8) := ⟨_, rfl⟩
  have HT8 : Hid (Tst (W.heap.size + 3) p W6.heap.size p.1.ns na' nc' p.2.list.length ka' kc' ks ks L W8) := by rw [← HW8.out]; exact HT7.out.alloc _
  have HC8 : Hid (C W8) := CB.out _ _ HCw.out (by rw [← HW8.out]; exact (Below.refl _ _).alloc (Nat.le_refl _) _)
  have hI := insN (W.heap.size + 3) (.slice na' p.1.ns.length nc') p.1.ns.length (p.1.ns.map Value.string) W8 HT8.out.ownN (by omega) (cnt p.1.ns name) w7'.heap.size [.string name] (by rw [← HW8.out]; exact blk_new w7' 9 [.string name]) rfl (by intro u hu; simp only [List.mem_singleton] at hu; rw [hu]; rfl) (by intro u hu; obtain ⟨z, _, rfl⟩ := List.mem_map.1 hu; rfl) (fun c => by have := (World.ownsRow.lt HT7.out.ownN _ c).2; omega) (HSz.out _ HC8.out) (cnt_le _ _)
  clear HCw HT7
  go_wp2_with fail
  generalize hWW : World.alloc w7' _ = W9
  obtain rfl : W8 = W9 := by rw [← hWW, ← HW8.out]
  clear hWW HW8 d4
  refine hI.mono ?_
  clear hI
  rintro e W10 ⟨v1, rfl, H10⟩
  obtain ⟨na8, nc8, rfl⟩ := own_shape H10.out.1
  have hln := (layN_new HNh.out).2
  have HO10 : Hid (W10.ownsRow (W.heap.size + 3) 9 1 (.slice na8 (layN p name).length nc8) (layN p name).length ((layN p name).map Value.string)) := by
    rw [hln, layN_map HNh.out]
    exact H10.out.1
  have HG10 : Hid (W8.grownBy W10 (Value.slice na' p.1.ns.length nc').ownBlock ∧ ((Value.slice na8 (layN p name).length nc8).ownBlock = (Value.slice na' p.1.ns.length nc').ownBlock ∨ ∃ g, (Value.slice na8 (layN p name).length nc8).ownBlock = some g ∧ W8.heap.size ≤ g)) := by
    rw [hln]
    exact H10.out.2
  have HB10 : Hid (Blk W10 W6.heap.size 25 (six p.1 na' nc' ka' p.2.list.length kc')) := by
    have hb := HT8.out.b4
    exact hb.kept HG10.out.1 (fun c => (HT8.out.obN _ c.symm).2.1 rfl)
  clear H10
  rw [← hln]
  clear hln
  go_wp2_with (refine st_one rfl 22 (.tmp 47) (.tmp 46) rfl W6.heap.size 4 25 _ _ rfl rfl rfl rfl (by simp [six]) HB10.out s22 ?_)
  intro W11 b11 g11
  have HT11 : Hid (Tst (W.heap.size + 3) p W6.heap.size (layN p name) na8 nc8 p.2.list.length ka' kc' ks ks L W11) := HT8.out.names HO10.out HG10.out.1 HG10.out.2 b11 g11
  have HC11 : Hid (C W11) := by
    have e1 := HG10.out.1
    have hlo := World.ownsRow.lt HT8.out.ownN
    have e3 := HS3.out
    have e4 := HSz.out _ HC8.out
    have q1 : Below W3.heap.size W8 W10 := (Below.refl _ _).grown e1 (by omega) (fun k hk => by have := (hlo k hk).1; omega)
    have q2 : Below W3.heap.size W10 W11 := (Below.refl _ _).grown g11 (by have := e1.size; omega) (by intro x hx; injection hx with hx; have := HT8.out.lo; omega)
    exact CX.out _ _ _ (CX.out _ _ _ HC8.out q1 (Nat.le_refl _)) q2 (Nat.le_refl _)
  clear b11 g11 HB10 HO10 HG10 HT8 HC8
  have HCw : Hid (C W11) := HC11.out
  have d5 : W11.cell? ⟨W6.heap.size, 5, none⟩ = some (.slice ka' p.2.list.length kc') := HT11.out.b4.cell 5
  obtain ⟨W12, HW12⟩ : ∃ W12, Hid (W11.alloc (.cells #[.int .i64 0, .int .i64 0, .int .i64 0, .string ⟨#[]⟩, .slice none 0 0, .slice none 0 0] 25) = W12) := ⟨_, rfl⟩
  have HT12 : Hid (Tst (W.heap.size + 3) p W6.heap.size (layN p name) na8 nc8 p.2.list.length ka' kc' ks ks L W12) := by rw [← HW12.out]; exact HT11.out.alloc _
  have HC12 : Hid (C W12) := CB.out _ _ HCw.out (by rw [← HW12.out]; exact (Below.refl _ _).alloc (Nat.le_refl _) _)
  have hI := insK (W.heap.size + 3) (.slice ka' p.2.list.length kc') p.2.list.length ks W12 HT12.out.ownK (by omega) (cnt p.1.ns name) W11.heap.size zer (by rw [← HW12.out]; exact blk_new W11 25 zer) rfl zer_one (lay_one _ HT12.out.lay) (fun c => by have := (World.ownsRow.lt HT11.out.ownK _ c).2; omega) (HSz.out _ HC12.out) (by rw [← HNK.out]; exact cnt_le _ _)
  clear HCw HT11 HC11
  go_wp2_with fail
  generalize hWW : World.alloc W11 _ = W9
  obtain rfl : W12 = W9 := by rw [← hWW, ← HW12.out]
  clear hWW HW12 d5
  refine hI.mono ?_
  clear hI
  rintro e W13 ⟨v1, rfl, H13⟩
  obtain ⟨ka9, kc9, rfl⟩ := own_shape H13.out.1
  have HB13 : Hid (Blk W13 W6.heap.size 25 (six { p.1 with ns := layN p name } na8 nc8 ka' p.2.list.length kc')) := by
    have hb := HT12.out.b4
    exact hb.kept H13.out.2.1 (fun c => (HT12.out.obK _ c.symm).2 rfl)
  go_wp2_with (refine st_one rfl 23 (.tmp 54) (.tmp 53) rfl W6.heap.size 5 25 _ _ rfl rfl rfl rfl (by simp [six]) HB13.out s23 ?_)
  intro W14 b14 g14
  have HT14 : Hid (Tst (W.heap.size + 3) p W6.heap.size (layN p name) na8 nc8 (p.2.list.length + 1) ka9 kc9 (ks.take (cnt p.1.ns name * 6) ++ (zer ++ ks.drop (cnt p.1.ns name * 6))) ks L W14) := HT12.out.kids H13.out.1 H13.out.2.1 H13.out.2.2 b14 g14
  have HC14 : Hid (C W14) := by
    have e1 := H13.out.2.1
    have hlo := World.ownsRow.lt HT12.out.ownK
    have e3 := HS3.out
    have e4 := HSz.out _ HC12.out
    have q1 : Below W3.heap.size W12 W13 := (Below.refl _ _).grown e1 (by omega) (fun k hk => by have := (hlo k hk).1; omega)
    have q2 : Below W3.heap.size W13 W14 := (Below.refl _ _).grown g14 (by have := e1.size; omega) (by intro x hx; injection hx with hx; have := HT12.out.lo; omega)
    exact CX.out _ _ _ (CX.out _ _ _ HC12.out q1 (Nat.le_refl _)) q2 (Nat.le_refl _)
  clear b14 g14 HB13 H13 HT12 HC12
  have HCw : Hid (C W14) := HC14.out
  clear HC14
  obtain ⟨g, c1, m, c3, sp, L1, L3, hka, hM⟩ := HT14.out.mst_new HNK.out HNh.out
  subst hka
  have HM : Hid (Mst (W.heap.size + 3) p name W6.heap.size na8 nc8 g kc9 c1 m c3 sp L1 L3 W14) := hM
  clear hM HNh HT14
  go_wp2
  have HC0 : Hid (C W14) := HCw.out
  obtain ⟨D, hD⟩ : ∃ D : World → Prop, D = fun W' => Below W14.heap.size W14 W' := ⟨_, rfl⟩
  have DD : Hid (∀ W, D W → D { W with drawn := W.drawn + 1 }) := fun W h => by rw [hD] at h ⊢; exact h.drew
  have DB : Hid (∀ W W', D W → Below W.heap.size W W' → D W') := fun W W' h hb => by rw [hD] at h ⊢; exact h.trans (hb.mono h.size)
  have DE : Hid (∀ W', D W' → Below W14.heap.size W14 W') := fun W' h => by rw [hD] at h; exact h
  have HDw : Hid (D W14) := by rw [hD]; exact Below.refl _ _
  have hKl : cnt p.1.ns name < (layN p name).length := by
    have := cnt_le p.1.ns name
    simp only [layN, List.length_append, List.length_take, List.length_cons]
    omega
  have hLN : (layN p name).length ≤ 100000 := by
    have := lyT_le p name
    simp only [layN, List.length_append, List.length_take, List.length_cons, List.length_drop]
    omega
  have S8 : Hid (∀ W', D W' → W'.cell? ⟨W6.heap.size, 5, none⟩ = some (.slice (some ⟨g, 0, none⟩) (layN p name).length kc9)) := fun W' h => (HM.out.b4.below (DE.out W' h) HM.out.b4.lt).cell 5
  have N8 : Hid (∀ W', D W' → Nd W' (W.heap.size + 1) 0 y.1 na2 nc2 ka2 y.2.list.length kc2) := fun W' h => nd_six fun j u hj => by
    rw [Nat.zero_add, (C2.out _ (CB.out _ _ HC0.out (DE.out W' h))).cell]
    exact hj
  have G8 : Hid (∀ W', D W' → Blk W' g 25 (c1 ++ (m ++ (c3 ++ sp)))) := fun W' h => HM.out.row.below (DE.out W' h) HM.out.row.lt
  have K8 : Hid (∀ W', D W' → Calls Try.prog 33 #[.agg #[.int .i64 y.1.k, .int .i64 y.1.n, .int .i64 y.1.s, .string y.1.t, .slice na2 y.1.ns.length nc2, .slice ka2 y.2.list.length kc2]] W' fun e w' => ∃ v, e = .returned v ∧ ∃ na5 nc5 ka5 kc5, v = .agg #[.int .i64 y.1.k, .int .i64 y.1.n, .int .i64 y.1.s, .string y.1.t, .slice na5 y.1.ns.length nc5, .slice ka5 y.2.list.length kc5] ∧ Hid (D w' ∧ ∃ Lq, VlL w' y na5 nc5 ka5 kc5 Lq ∧ (∀ x ∈ Lq, W14.heap.size ≤ x ∧ x < w'.heap.size) ∧ Lq.Nodup)) := fun W' h => by
    have hw1 := DE.out W' h
    refine (copy_any _ y (Nat.le_refl _) HWy.out (by have := HWs.out.2; omega) na2 nc2 ka2 kc2 W' (CY.out _ (CB.out _ _ HC0.out hw1))).mono ?_
    rintro e w' ⟨na5, nc5, ka5, kc5, rfl, H5⟩
    obtain ⟨Lq, y1, y2, y3, y4⟩ := H5.out
    have := hw1.size
    exact ⟨_, rfl, na5, nc5, ka5, kc5, rfl, DB.out _ _ h y4, Lq, y1, (fun x hx => ⟨by have := (y2 x hx).1; omega, (y2 x hx).2⟩), y3⟩
  have HL : Hid (c1.length = cnt p.1.ns name * 6 ∧ m.length = 6) := ⟨HM.out.lc, HM.out.lm⟩
  clear hD
  generalize cnt p.1.ns name = K at *
  refine region_calm D 6 (by kernel_rfl) ?_
  have hCp : ∀ p : Prop, (∀ W, D W → p) ↔ p := fun p => ⟨fun h => h _ HDw.out, fun h _ _ => h⟩
  have HDx := DD.out _ HDw.out
  generalize ({ W14 with drawn := W14.drawn + 1 } : World) = W0 at *
  have HD0 : Hid (D W0) := HDx
  clear HDx
  refine seg 3 [0, 1, 2, 3] rfl (by kernel_rfl) whole_blind HD0.out (by kernel_rfl) ?_
  change wpQuiet _ _ _ _ (_ :: _ :: _ :: _ :: []) _
  repeat (first
    | go_big_quiet_skip
    | (go_big_quiet_want
       first
       | (refine q_slice 23 (.tmp 55) rfl W6.heap.size 5 rfl _ _ _ (by simp) S8.out ?_
          simp only [Act.put, List.setIfInBounds_toArray, List.set_cons_zero, List.set_cons_succ]
          go_big_quiet_on)
       | (refine q_val (.tmp 5) rfl (W.heap.size + 1) 0 rfl _ _ _ _ _ _ N8.out ?_
          simp only [Act.put, List.setIfInBounds_toArray, List.set_cons_zero, List.set_cons_succ]
          go_big_quiet_on)
       | (go_big_quiet_op
          go_big_quiet_on)))
  refine wpQuiet_nil ?_
  refine lone_do (i := 4) 2 rfl (by kernel_rfl) rfl (by rfl) ?_
  intro K' hK'
  refine oper_calls 33 #[.tmp 58] #[25] rfl #[.agg #[.int .i64 y.1.k, .int .i64 y.1.n, .int .i64 y.1.s, .string y.1.t, .slice na2 y.1.ns.length nc2, .slice ka2 y.2.list.length kc2]] (by rw [List.map_toArray]; rfl) enters33 _ (K8.out _ HD0.out) ?_
  rintro v w1 ⟨na5, nc5, ka5, kc5, rfl, H5⟩
  refine hK' _ _ H5.out.1 ?_
  clear hK' K'
  simp only [Act.put, List.setIfInBounds_toArray, List.set_cons_zero, List.set_cons_succ]
  refine lone_calm (i := 5) 1 rfl (by kernel_rfl) rfl rfl H5.out.1 ?_
  go_big_quiet_want
  go_big_quiet_op
  go_big_quiet_on
  refine wpQuiet_nil ?_
  refine lone_last (i := 6) 0 rfl rfl (by kernel_rfl) rfl (by rfl) ?_
  intro K' hK'
  refine oper_row 25 (.tmp 60) (.tmp 59) rfl g (K * 6) 25 c1 m (c3 ++ sp) (six y.1 na5 nc5 ka5 y.2.list.length kc5) rfl rfl HL.out.1 (G8.out _ H5.out.1) (by rw [HL.out.2]; rfl) s25 (six_one _ _ _ _ _ _) ?_
  intro w3 b3 g3
  refine hK' _ _ ?_
  clear hK' K'
  have HX : Hid ((Blk w3 W6.heap.size 25 (six (layV p name y).1 na8 nc8 (some ⟨g, 0, none⟩) (layV p name y).2.list.length kc9) ∧ ∃ L, VlL w3 (layV p name y) na8 nc8 (some ⟨g, 0, none⟩) kc9 L ∧ (∀ x ∈ L, W.heap.size + 3 ≤ x ∧ x < w3.heap.size) ∧ L.Nodup) ∧ C w3) := by
    obtain ⟨y0, Lq, y1, y2, y3⟩ := H5.out
    refine ⟨HM.out.done HNK.out (DE.out _ y0) y1 y2 y3 g3 b3, ?_⟩
    have hw := CB.out _ _ HC0.out (DE.out _ y0)
    have hlo := HM.out.lo.2
    have hs3 := HS3.out
    exact CX.out w1 w3 W3.heap.size hw ((Below.refl _ _).grown g3 (by have := HSz.out _ hw; omega) (by intro x hx; injection hx with hx; omega)) (Nat.le_refl _)
  clear b3 g3 H5 HM S8 N8 G8 K8 HL HD0 DD DB DE HDw hCp HCw HC0 hKl hLN
  have HCw : Hid (C w3) := HX.out.2
  have HV9 : Hid (∃ L, VlL w3 (layV p name y) na8 nc8 (some ⟨g, 0, none⟩) kc9 L ∧ (∀ x ∈ L, W.heap.size + 3 ≤ x ∧ x < w3.heap.size) ∧ L.Nodup) := HX.out.1.2
  have HB9 : Hid (Blk w3 W6.heap.size 25 (six (layV p name y).1 na8 nc8 (some ⟨g, 0, none⟩) (layV p name y).2.list.length kc9)) := HX.out.1.1
  have hk3 : Hid (Calls Try.prog 11 #[.agg (six (layV p name y).1 na8 nc8 (some ⟨g, 0, none⟩) (layV p name y).2.list.length kc9).toArray] w3 fun e w' => e = .returned (.int .i64 (chkV (layV p name y) 1)) ∧ Below w3.heap.size w3 w') := by
    obtain ⟨L, y1, _⟩ := HV9.out
    exact vCheck_any _ HLW.out na8 nc8 (some ⟨g, 0, none⟩) kc9 w3 y1.vl
  clear HX
  have hll : (layV p name y).2.list.length ≤ 140737488355328 := HLW.out.2.1
  refine anyC_done (by kernel_rfl) ⟨rfl, ?_⟩
  simp only [Act.put]
  have HPo : Hid (∀ e : Int, chkV (layV p name y) 1 = e → wthE p name y = e ∧ (e ≠ 0 → wthV p name y = nulV) ∧ (e = 0 → wthV p name y = layV p name y)) := fun e he => by
    have h1 := HE.out
    rw [he] at h1
    exact ⟨h1, fun h => by unfold wthV; rw [if_neg (by rw [h1]; exact h)], fun h => by unfold wthV; rw [if_pos (by rw [h1]; exact h)]⟩
  obtain ⟨EE, hEE⟩ : ∃ EE, chkV (layV p name y) 1 = EE := ⟨_, rfl⟩
  rw [hEE] at hk3
  have HQ := HPo.out EE hEE
  have HQ2 : Hid _ := HQ
  clear hEE HPo HQ HE
  have z0 : w3.cell? ⟨W6.heap.size, 0, none⟩ = some (.int .i64 (layV p name y).1.k) := HB9.out.cell 0
  have z1 : w3.cell? ⟨W6.heap.size, 1, none⟩ = some (.int .i64 (layV p name y).1.n) := HB9.out.cell 1
  have z2 : w3.cell? ⟨W6.heap.size, 2, none⟩ = some (.int .i64 (layV p name y).1.s) := HB9.out.cell 2
  have z3 : w3.cell? ⟨W6.heap.size, 3, none⟩ = some (.string (layV p name y).1.t) := HB9.out.cell 3
  have z4 : w3.cell? ⟨W6.heap.size, 4, none⟩ = some (.slice na8 (layV p name y).1.ns.length nc8) := HB9.out.cell 4
  have z5 : w3.cell? ⟨W6.heap.size, 5, none⟩ = some (.slice (some ⟨g, 0, none⟩) (layV p name y).2.list.length kc9) := HB9.out.cell 5
  generalize hLV : layV p name y = lv at *
  go_wp2_with fail
  refine hk3.out.mono ?_
  clear hk3 z0 z1 z2 z3 z4 z5
  rintro e w5 ⟨rfl, hb5⟩
  have HB5 : Hid (Below w3.heap.size w3 w5) := hb5
  clear hb5
  have HCv : Hid (C w5) := CB.out _ _ HCw.out HB5.out
  clear HCw
  have HCw : Hid (C w5) := HCv.out
  by_cases hz : EE = 0
  case neg =>
    have HNo : Hid (wthE p name y = EE ∧ wthV p name y = nulV) := ⟨HQ2.out.1, HQ2.out.2.1 hz⟩
    have HBz : Hid (Blk w5 (W.heap.size + 1 + 1) 25 zer) := C3.out _ HCw.out
    go_wp2_with (refine st_all rfl 25 (.tmp 6) (.tmp 65) rfl (W.heap.size + 1 + 1) 25 zer zer rfl rfl HBz.out rfl s25 zer_one ?_)
    intro w8 b8 g8
    have HB8 : Hid (Blk w8 (W.heap.size + 1 + 1) 25 zer) := b8
    have HE8 : Hid (Below W.heap.size W w8) := (CE.out _ HCw.out).grown g8 (CE.out _ HCw.out).size (by intro x hx; injection hx with hx; omega)
    clear b8 g8
    go_wp2
    refine bodyPost_ret (res_two rfl _ (W.heap.size + 1 + 1) 25 _ _ rfl HB8.out Try.underlying25 rfl s25) rfl ?_
    have hno := HNo.out
    rw [hno.1, hno.2]
    exact ⟨none, 0, none, 0, rfl, [], nul_own _, (fun x hx => by cases hx), List.nodup_nil, HE8.out⟩
  subst hz
  have HBz : Hid (Blk w5 (W.heap.size + 1 + 1) 25 zer) := C3.out _ HCw.out
  have b9 := HB9.out.below HB5.out HB9.out.lt
  have z0 : w5.cell? ⟨W6.heap.size, 0, none⟩ = some (.int .i64 lv.1.k) := b9.cell 0
  have z1 : w5.cell? ⟨W6.heap.size, 1, none⟩ = some (.int .i64 lv.1.n) := b9.cell 1
  have z2 : w5.cell? ⟨W6.heap.size, 2, none⟩ = some (.int .i64 lv.1.s) := b9.cell 2
  have z3 : w5.cell? ⟨W6.heap.size, 3, none⟩ = some (.string lv.1.t) := b9.cell 3
  have z4 : w5.cell? ⟨W6.heap.size, 4, none⟩ = some (.slice na8 lv.1.ns.length nc8) := b9.cell 4
  have z5 : w5.cell? ⟨W6.heap.size, 5, none⟩ = some (.slice (some ⟨g, 0, none⟩) lv.2.list.length kc9) := b9.cell 5
  clear b9
  go_wp2_with (refine st_all rfl 25 (.tmp 6) (.tmp 67) rfl (W.heap.size + 1 + 1) 25 zer (six lv.1 na8 nc8 (some ⟨g, 0, none⟩) lv.2.list.length kc9) rfl rfl HBz.out rfl s25 (six_one _ _ _ _ _ _) ?_)
  intro w8 b8 g8
  have HB8 : Hid (Blk w8 (W.heap.size + 1 + 1) 25 (six lv.1 na8 nc8 (some ⟨g, 0, none⟩) lv.2.list.length kc9)) := b8
  have HE8 : Hid (∃ L, VlL w8 lv na8 nc8 (some ⟨g, 0, none⟩) kc9 L ∧ (∀ x ∈ L, W.heap.size ≤ x ∧ x < w8.heap.size) ∧ L.Nodup ∧ Below W.heap.size W w8) := by
    obtain ⟨L, y1, y2, y3⟩ := HV9.out
    have s1 := HB5.out.size
    have s2 := g8.size
    refine ⟨L, (y1.keep fun x hx => HB5.out.block x (y2 x hx).2).keep fun x hx => g8.block x (by have := (y2 x hx).2; omega) (by intro c; injection c with c; have := (y2 x hx).1; omega), fun x hx => by have := y2 x hx; omega, y3, ?_⟩
    exact (CE.out _ HCw.out).grown g8 (CE.out _ HCw.out).size (by intro x hx; injection hx with hx; omega)
  clear b8 g8
  go_wp2
  refine bodyPost_ret (res_two rfl _ (W.heap.size + 1 + 1) 25 _ _ rfl HB8.out Try.underlying25 rfl s25) rfl ?_
  rw [HQ2.out.1, HQ2.out.2.2 (by first | rfl | trivial)]
  exact ⟨_, _, _, _, rfl, HE8.out⟩
end Go.Proofs.Ytiddlpjnfophhaa
