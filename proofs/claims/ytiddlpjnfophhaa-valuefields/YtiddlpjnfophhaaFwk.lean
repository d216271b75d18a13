/-
  ValueFields' walk.
-/
import Derived.Test.YtiddlpjnfophhaaFmt
namespace Go.Proofs.Ytiddlpjnfophhaa
open Go.RowKit
set_option linter.unusedVariables false
set_option maxRecDepth 8000 in
set_option maxHeartbeats 1000000 in
theorem fields_walk (p y : Vt) (name : ByteArray) (hwf : WfV p) (hwy : WfV y) (hns : name.size ≤ 9223372036854775807) (na : Option Addr) (nc : Nat) (ka : Option Addr) (kc : Nat) (na2 : Option Addr) (nc2 : Nat) (ka2 : Option Addr) (kc2 : Nat) (W : World) (hv : Vl W p na nc ka kc) (hv2 : Vl W y na2 nc2 ka2 kc2) :
    Calls Try.prog 6 #[.agg #[.int .i64 p.1.k, .int .i64 p.1.n, .int .i64 p.1.s, .string p.1.t, .slice na p.1.ns.length nc, .slice ka p.2.list.length kc], .string name, .agg #[.int .i64 y.1.k, .int .i64 y.1.n, .int .i64 y.1.s, .string y.1.t, .slice na2 y.1.ns.length nc2, .slice ka2 y.2.list.length kc2]] W fun e w' => e = .returned (.bool true) ∧ Below W.heap.size W w' := by
  obtain ⟨W2, HW2⟩ : ∃ W2, Hid ((W.alloc (.cells #[.int .i64 p.1.k, .int .i64 p.1.n, .int .i64 p.1.s, .string p.1.t, .slice na p.1.ns.length nc, .slice ka p.2.list.length kc] 25)).alloc (.cells #[.int .i64 y.1.k, .int .i64 y.1.n, .int .i64 y.1.s, .string y.1.t, .slice na2 y.1.ns.length nc2, .slice ka2 y.2.list.length kc2] 25) = W2) := ⟨_, rfl⟩
  have hkl := hwf.2.1
  have hkl2 := hwy.2.1
  have hbW : Below W.heap.size W W2 := by rw [← HW2.out]; exact ((Below.refl _ _).alloc (Nat.le_refl _) _).alloc (by simp) _
  have HB1 : Hid (Blk W2 W.heap.size 25 (six p.1 na nc ka p.2.list.length kc)) := by rw [← HW2.out]; exact (blk_new W 25 (six p.1 na nc ka p.2.list.length kc)).alloc _
  have HB2 : Hid (Blk W2 (W.heap.size + 1) 25 (six y.1 na2 nc2 ka2 y.2.list.length kc2)) := by
    rw [← HW2.out]
    have h := blk_new (W.alloc (.cells #[.int .i64 p.1.k, .int .i64 p.1.n, .int .i64 p.1.s, .string p.1.t, .slice na p.1.ns.length nc, .slice ka p.2.list.length kc] 25)) 25 (six y.1 na2 nc2 ka2 y.2.list.length kc2)
    rw [show (W.alloc (.cells #[.int .i64 p.1.k, .int .i64 p.1.n, .int .i64 p.1.s, .string p.1.t, .slice na p.1.ns.length nc, .slice ka p.2.list.length kc] 25)).heap.size = W.heap.size + 1 by simp] at h
    exact h
  have HS2 : Hid (W2.heap.size = W.heap.size + 1 + 1) := by have := HW2.out; subst this; show _ = _; simp
  obtain ⟨C, hC⟩ : ∃ C : World → Prop, C = fun W' => Below W2.heap.size W2 W' := ⟨_, rfl⟩
  have CB : Hid (∀ W W', C W → Below W.heap.size W W' → C W') := fun W W' h hb => by rw [hC] at h ⊢; exact h.trans (hb.mono h.size)
  have CX : Hid (∀ W W' B, C W → Below B W W' → W2.heap.size ≤ B → C W') := fun W W' B h hb hB => by rw [hC] at h ⊢; exact h.trans (hb.mono hB)
  have CD : Hid (∀ W, C W → C { W with drawn := W.drawn + 1 }) := fun W h => by rw [hC] at h ⊢; exact h.drew
  have HCw : Hid (C W2) := by rw [hC]; exact Below.refl _ _
  have CE : Hid (∀ W', C W' → Below W.heap.size W W') := fun W' h => by rw [hC] at h; exact hbW.trans (h.mono hbW.size)
  have C1 : Hid (∀ W', C W' → Blk W' W.heap.size 25 (six p.1 na nc ka p.2.list.length kc)) := fun W' h => by rw [hC] at h; exact HB1.out.below h HB1.out.lt
  have C2 : Hid (∀ W', C W' → Blk W' (W.heap.size + 1) 25 (six y.1 na2 nc2 ka2 y.2.list.length kc2)) := fun W' h => by rw [hC] at h; exact HB2.out.below h HB2.out.lt
  have HSz : Hid (∀ W', C W' → W.heap.size + 2 ≤ W'.heap.size) := fun W' h => by have := (C2.out W' h).lt; show _ ≤ _; omega
  have CV : Hid (∀ W', C W' → Vl W' p na nc ka kc) := fun W' h => hv.below (CE.out W' h)
  have CY : Hid (∀ W', C W' → Vl W' y na2 nc2 ka2 kc2) := fun W' h => hv2.below (CE.out W' h)
  have N1 : Hid (∀ W', C W' → Nd W' W.heap.size 0 p.1 na nc ka p.2.list.length kc) := fun W' h => nd_six fun j u hj => by rw [Nat.zero_add, (C1.out W' h).cell]; exact hj
  have N2 : Hid (∀ W', C W' → Nd W' (W.heap.size + 1) 0 y.1 na2 nc2 ka2 y.2.list.length kc2) := fun W' h => nd_six fun j u hj => by rw [Nat.zero_add, (C2.out W' h).cell]; exact hj
  have hH : Hid (Calls Try.prog 7 #[.slice (some ⟨W.heap.size + 1 + 1, 0, none⟩) 2 2] (W2.alloc (.cells #[.int .i64 p.1.k, .int .i64 p.1.n, .int .i64 p.1.s, .string p.1.t, .slice na p.1.ns.length nc, .slice ka p.2.list.length kc, .int .i64 y.1.k, .int .i64 y.1.n, .int .i64 y.1.s, .string y.1.t, .slice na2 y.1.ns.length nc2, .slice ka2 y.2.list.length kc2] 25)) fun e w' => ∃ t, e = .returned (.bool t) ∧ Hid ((t = false → ws p ≤ 2500 ∧ ws y ≤ 2500) ∧ C w')) := by
    have h := (heavy_any (.cons p.1 p.2 (.cons y.1 y.2 .nil)) ⟨hwf, hwy, trivial⟩ W2.heap.size 0 2 2 rfl (by omega) _ (two_at (T := 25) (CV.out W2 HCw.out) (CY.out W2 HCw.out))).mono (R' := fun e w' => ∃ t, e = .returned (.bool t) ∧ Hid ((t = false → ws p ≤ 2500 ∧ ws y ≤ 2500) ∧ C w')) fun e w' ⟨t, he, hh⟩ => ⟨t, he, (fun e => by have := hh.out.1 e; simp only [Fo.ws] at this; simp only [ws]; omega), CB.out _ _ (CB.out _ _ HCw.out ((Below.refl _ _).alloc (Nat.le_refl _) _)) hh.out.2⟩
    rw [HS2.out] at h
    exact h
  have HWp : Hid (WfV p) := hwf
  have HWy : Hid (WfV y) := hwy
  clear hC hbW hv hv2 hwf hwy
  go_enter Try.func6, Try.ntmps6
  go_wp2_with fail
  generalize hWW : World.alloc (World.alloc W _) _ = W9
  obtain rfl : W2 = W9 := by rw [← hWW, ← HW2.out]
  clear hWW HW2
  refine hH.out.mono ?_
  clear HCw hH
  rintro e W3 ⟨t, rfl, H3⟩
  have HCw : Hid (C W3) := H3.out.2
  cases t
  case true =>
    go_wp2
    go_ret
    exact ⟨rfl, CE.out _ HCw.out⟩
  have HWs : Hid (ws p ≤ 2500 ∧ ws y ≤ 2500) := H3.out.1 rfl
  clear H3
  by_cases hlen : 500 < name.size
  case pos =>
    go_wp2
    go_ret
    exact ⟨rfl, CE.out _ HCw.out⟩
  have HNm : Hid (name.size ≤ 500) := by show _ ≤ _; omega
  go_wp2
  have K1 : Hid (∀ W', C W' → Calls Try.prog 8 #[.agg #[.int .i64 p.1.k, .int .i64 p.1.n, .int .i64 p.1.s, .string p.1.t, .slice na p.1.ns.length nc, .slice ka p.2.list.length kc]] W' fun e w' => ∃ v, e = .returned v ∧ ∃ na5 nc5 ka5 kc5, v = .agg #[.int .i64 p.1.k, .int .i64 p.1.n, .int .i64 p.1.s, .string p.1.t, .slice na5 p.1.ns.length nc5, .slice ka5 p.2.list.length kc5] ∧ Hid (C w' ∧ Below W'.heap.size W' w' ∧ ∃ L, VlL w' p na5 nc5 ka5 kc5 L ∧ ∀ x ∈ L, W'.heap.size ≤ x ∧ x < w'.heap.size)) := fun W' h => (clone_any _ p (Nat.le_refl _) HWp.out (by have := HWs.out; omega) na nc ka kc W' (CV.out W' h)).mono fun e w' ⟨a, b, c, d, he, hh⟩ => by
    obtain ⟨L, y1, y2, y3, y4⟩ := hh.out
    exact ⟨_, he, a, b, c, d, rfl, CB.out _ _ h y4, y4, L, y1, y2⟩
  have K2 : Hid (∀ W', C W' → Calls Try.prog 8 #[.agg #[.int .i64 y.1.k, .int .i64 y.1.n, .int .i64 y.1.s, .string y.1.t, .slice na2 y.1.ns.length nc2, .slice ka2 y.2.list.length kc2]] W' fun e w' => ∃ v, e = .returned v ∧ ∃ na6 nc6 ka6 kc6, v = .agg #[.int .i64 y.1.k, .int .i64 y.1.n, .int .i64 y.1.s, .string y.1.t, .slice na6 y.1.ns.length nc6, .slice ka6 y.2.list.length kc6] ∧ Hid (C w' ∧ Below W'.heap.size W' w' ∧ ∃ L, VlL w' y na6 nc6 ka6 kc6 L ∧ ∀ x ∈ L, W'.heap.size ≤ x ∧ x < w'.heap.size)) := fun W' h => (clone_any _ y (Nat.le_refl _) HWy.out (by have := HWs.out; omega) na2 nc2 ka2 kc2 W' (CY.out W' h)).mono fun e w' ⟨a, b, c, d, he, hh⟩ => by
    obtain ⟨L, y1, y2, y3, y4⟩ := hh.out
    exact ⟨_, he, a, b, c, d, rfl, CB.out _ _ h y4, y4, L, y1, y2⟩
  refine Code.wp_mono (Q := (fun e a w => e = .normal ∧ ∃ (B7 B8 : Nat) (na5 : Option Addr) (nc5 : Nat) (ka5 : Option Addr) (kc5 : Nat) (na6 : Option Addr) (nc6 : Nat) (ka6 : Option Addr) (kc6 : Nat), a = (⟨#[.agg #[.int .i64 p.1.k, .int .i64 p.1.n, .int .i64 p.1.s, .string p.1.t, .slice na p.1.ns.length nc, .slice ka p.2.list.length kc], .string name, .agg #[.int .i64 y.1.k, .int .i64 y.1.n, .int .i64 y.1.s, .string y.1.t, .slice na2 y.1.ns.length nc2, .slice ka2 y.2.list.length kc2], .pointer (some ⟨W.heap.size, 0, none⟩), undef, .pointer (some ⟨W.heap.size + 1, 0, none⟩), .bool false, .pointer (some ⟨B7, 0, none⟩), .pointer (some ⟨B8, 0, none⟩), undef, undef, undef, undef, undef, undef, undef, undef, undef, undef, .agg #[.int .i64 p.1.k, .int .i64 p.1.n, .int .i64 p.1.s, .string p.1.t, .slice na p.1.ns.length nc, .slice ka p.2.list.length kc], .agg #[.int .i64 y.1.k, .int .i64 y.1.n, .int .i64 y.1.s, .string y.1.t, .slice na2 y.1.ns.length nc2, .slice ka2 y.2.list.length kc2], .slice (some ⟨W.heap.size + 1 + 1, 0, none⟩) 2 2, .bool false, .bool false, .string name, .int .i64 (name.size : Int), .bool (decide (500 < (name.size : Int))), .bool (decide (500 < (name.size : Int))), .agg #[.int .i64 p.1.k, .int .i64 p.1.n, .int .i64 p.1.s, .string p.1.t, .slice na p.1.ns.length nc, .slice ka p.2.list.length kc], .agg #[.int .i64 p.1.k, .int .i64 p.1.n, .int .i64 p.1.s, .string p.1.t, .slice na5 p.1.ns.length nc5, .slice ka5 p.2.list.length kc5], .agg #[.int .i64 y.1.k, .int .i64 y.1.n, .int .i64 y.1.s, .string y.1.t, .slice na2 y.1.ns.length nc2, .slice ka2 y.2.list.length kc2], .agg #[.int .i64 y.1.k, .int .i64 y.1.n, .int .i64 y.1.s, .string y.1.t, .slice na6 y.1.ns.length nc6, .slice ka6 y.2.list.length kc6], undef, undef, undef, undef, undef, undef, undef, undef, undef, undef, undef, undef, undef, undef, undef, undef, undef, undef, undef, undef, undef, undef, undef, undef, undef, undef, undef, undef, undef, undef, undef, undef, undef, undef, undef, undef, undef, undef, undef, undef, undef, undef, undef, undef, undef, undef, undef, undef, undef, undef, undef, undef, undef, undef, undef, undef, undef, undef, undef, undef, undef, undef, undef, undef, undef, undef, undef, undef, undef, undef, undef, undef, undef, undef, undef, undef], []⟩ : Act) ∧ Hid (C w ∧ Blk w B7 25 (six p.1 na5 nc5 ka5 p.2.list.length kc5) ∧ Blk w B8 25 (six y.1 na6 nc6 ka6 y.2.list.length kc6) ∧ Vl w p na5 nc5 ka5 kc5 ∧ Vl w y na6 nc6 ka6 kc6))) ?_ ?_
  case refine_2 =>
    refine region_calm C 7 (by kernel_rfl) ?_
    have hCp : ∀ p : Prop, (∀ W, C W → p) ↔ p := fun p => ⟨fun h => h _ HCw.out, fun h _ _ => h⟩
    have HDx := CD.out _ HCw.out
    generalize ({ W3 with drawn := W3.drawn + 1 } : World) = v0 at *
    have HC0 : Hid (C v0) := HDx
    clear HDx HCw
    refine seg 6 [0, 2] rfl (by kernel_rfl) whole_blind HC0.out (by kernel_rfl) ?_
    change wpQuiet _ _ _ _ (_ :: _ :: []) _
    repeat (first
      | go_big_quiet_skip
      | (go_big_quiet_want
         first
         | (refine q_val (.tmp 3) rfl W.heap.size 0 rfl _ _ _ _ _ _ N1.out ?_
            simp only [Act.put, List.setIfInBounds_toArray, List.set_cons_zero, List.set_cons_succ]
            go_big_quiet_on)
         | (refine q_val (.tmp 5) rfl (W.heap.size + 1) 0 rfl _ _ _ _ _ _ N2.out ?_
            simp only [Act.put, List.setIfInBounds_toArray, List.set_cons_zero, List.set_cons_succ]
            go_big_quiet_on)
         | (go_big_quiet_op
            go_big_quiet_on)))
    refine wpQuiet_nil ?_
    refine one_of 5 rfl [1, 4, 5] (by kernel_rfl) (by simp) ?_
    intro i hi
    simp only [List.mem_cons, List.not_mem_nil, or_false] at hi
    rcases hi with rfl | rfl | rfl
    · refine ⟨_, rfl, by rfl, ?_⟩
      intro K hK
      refine oper_calls 8 #[.tmp 28] #[25] rfl #[.agg #[.int .i64 p.1.k, .int .i64 p.1.n, .int .i64 p.1.s, .string p.1.t, .slice na p.1.ns.length nc, .slice ka p.2.list.length kc]] (by rw [List.map_toArray]; rfl) enters8 _ (K1.out _ HC0.out) ?_
      rintro v v1 ⟨na5, nc5, ka5, kc5, rfl, H5⟩
      refine hK _ _ (.inr H5.out.1) ?_
      clear hK K
      have HC1 : Hid (C v1) := H5.out.1
      have HB1 : Hid (Below v0.heap.size v0 v1) := H5.out.2.1
      simp only [Act.put, List.setIfInBounds_toArray, List.set_cons_zero, List.set_cons_succ]
      refine one_of 4 rfl [3, 4, 5] (by kernel_rfl) (by simp) ?_
      intro i hi
      simp only [List.mem_cons, List.not_mem_nil, or_false] at hi
      rcases hi with rfl | rfl | rfl
      · refine ⟨_, rfl, by rfl, ?_⟩
        intro K hK
        refine oper_calls 8 #[.tmp 30] #[25] rfl #[.agg #[.int .i64 y.1.k, .int .i64 y.1.n, .int .i64 y.1.s, .string y.1.t, .slice na2 y.1.ns.length nc2, .slice ka2 y.2.list.length kc2]] (by rw [List.map_toArray]; rfl) enters8 _ (K2.out _ HC1.out) ?_
        rintro v v2 ⟨na6, nc6, ka6, kc6, rfl, H6⟩
        refine hK _ _ (.inr H6.out.1) ?_
        clear hK K
        have HC2 : Hid (C v2) := H6.out.1
        have HB2 : Hid (Below v1.heap.size v1 v2) := H6.out.2.1
        simp only [Act.put, List.setIfInBounds_toArray, List.set_cons_zero, List.set_cons_succ]
        refine one_of 3 rfl [4, 5] (by kernel_rfl) (by simp) ?_
        intro i hi
        simp only [List.mem_cons, List.not_mem_nil, or_false] at hi
        rcases hi with rfl | rfl
        · refine ⟨_, rfl, by rfl, ?_⟩
          intro K hK
          refine oper_new rfl (fun w' => C w' ∧ Below v2.heap.size v2 w' ∧ Blk w' v2.heap.size 25 zer ∧ v2.heap.size < w'.heap.size) ⟨CB.out _ _ HC2.out ((Below.refl _ _).alloc (Nat.le_refl _) _), (Below.refl _ _).alloc (Nat.le_refl _) _, blk_new _ _ _, by simp⟩ ?_
          intro v3 H9
          refine hK _ _ (.inr H9.1) ?_
          clear hK K
          have HC3 : Hid (C v3) := H9.1
          have HB3 : Hid (Below v2.heap.size v2 v3) := H9.2.1
          have HA4 : Hid (Blk v3 v2.heap.size 25 zer ∧ v2.heap.size < v3.heap.size) := H9.2.2
          clear H9
          simp only [Act.put, List.setIfInBounds_toArray, List.set_cons_zero, List.set_cons_succ]
          refine one_of 2 rfl [5] (by kernel_rfl) (by simp) ?_
          intro i hi
          simp only [List.mem_cons, List.not_mem_nil, or_false] at hi
          subst hi
          refine ⟨_, rfl, by rfl, ?_⟩
          intro K hK
          refine oper_new rfl (fun w' => C w' ∧ Below v3.heap.size v3 w' ∧ Blk w' v3.heap.size 25 zer ∧ v3.heap.size < w'.heap.size) ⟨CB.out _ _ HC3.out ((Below.refl _ _).alloc (Nat.le_refl _) _), (Below.refl _ _).alloc (Nat.le_refl _) _, blk_new _ _ _, by simp⟩ ?_
          intro v4 H9
          refine hK _ _ (.inr H9.1) ?_
          clear hK K
          have HC4 : Hid (C v4) := H9.1
          have HB4 : Hid (Below v3.heap.size v3 v4) := H9.2.1
          have HA5 : Hid (Blk v4 v3.heap.size 25 zer ∧ v3.heap.size < v4.heap.size) := H9.2.2
          clear H9
          simp only [Act.put, List.setIfInBounds_toArray, List.set_cons_zero, List.set_cons_succ]
          have HB7 : Hid (Blk v4 (v2.heap.size) 25 zer) := HA4.out.1.below HB4.out HA4.out.2
          have HB8 : Hid (Blk v4 (v3.heap.size) 25 zer) := HA5.out.1.below (Below.refl v4.heap.size v4) HA5.out.2
          refine one_of 1 rfl [6] (by kernel_rfl) (by simp) ?_
          intro i hi
          obtain rfl := List.mem_singleton.1 hi
          refine ⟨_, rfl, by rfl, ?_⟩
          intro K hK
          refine oper_row 25 (.tmp 7) (.tmp 29) rfl (v2.heap.size) 0 25 [] zer [] (six p.1 na5 nc5 ka5 p.2.list.length kc5) rfl rfl rfl (by simpa using HB7.out) rfl s25 (six_one _ _ _ _ _ _) ?_
          intro u1 b1 g1
          have hcu : C u1 := by
            have hs0 := HSz.out _ HC0.out
            have hs3 := HS2.out
            have q1 := HB1.out.size
            have q2 := HB2.out.size
            have q3 := HB3.out.size
            have q4 := HB4.out.size
            exact CX.out _ _ W2.heap.size HC4.out ((Below.refl _ _).grown g1 (by omega) (by intro x hx; injection hx with hx; omega)) (Nat.le_refl _)
          refine hK _ _ (.inr hcu) ?_
          clear hK K hi
          have hb8 : Blk u1 (v3.heap.size) 25 zer := by
            have ha4 := HA4.out.2
            have ha5 := HA5.out.2
            have q1 := HB1.out.size
            have q2 := HB2.out.size
            have q3 := HB3.out.size
            have q4 := HB4.out.size
            exact HB8.out.kept g1 (by intro c; injection c with c; omega)
          refine one_of 0 rfl [7] (by kernel_rfl) (by simp) ?_
          intro i hi
          obtain rfl := List.mem_singleton.1 hi
          refine ⟨_, rfl, by rfl, ?_⟩
          intro K hK
          refine oper_row 25 (.tmp 8) (.tmp 31) rfl (v3.heap.size) 0 25 [] zer [] (six y.1 na6 nc6 ka6 y.2.list.length kc6) rfl rfl rfl (by simpa using hb8) rfl s25 (six_one _ _ _ _ _ _) ?_
          intro u2 b2 g2
          refine hK _ _ (.inl rfl) ?_
          clear hK K hi
          refine anyC_done (by kernel_rfl) ⟨rfl, ?_⟩
          refine ⟨rfl, v2.heap.size, v3.heap.size, na5, nc5, ka5, kc5, na6, nc6, ka6, kc6, rfl, ?_⟩
          obtain ⟨_, _, Lp, hvp, hlp⟩ := H5.out
          obtain ⟨_, _, Ly, hvy, hly⟩ := H6.out
          have hs0 := HSz.out _ HC0.out
          have hs3 := HS2.out
          have ha4 := HA4.out.2
          have ha5 := HA5.out.2
          have q1 := HB1.out.size
          have q2 := HB2.out.size
          have q3 := HB3.out.size
          have q4 := HB4.out.size
          have gs1 := g1.size
          have b1' : Blk u1 (v2.heap.size) 25 (six p.1 na5 nc5 ka5 p.2.list.length kc5) := by simpa using b1
          have b2' : Blk u2 (v3.heap.size) 25 (six y.1 na6 nc6 ka6 y.2.list.length kc6) := by simpa using b2
          have hkp : ∀ x ∈ Lp, u2.heap[x]? = v1.heap[x]? := fun x hx => by
            have hb := hlp x hx
            rw [g2.block x (by omega) (by intro c; injection c with c; omega), g1.block x (by omega) (by intro c; injection c with c; omega), (((HB2.out.trans (HB3.out.mono HB2.out.size)).trans (HB4.out.mono (HB2.out.trans (HB3.out.mono HB2.out.size)).size))).block x hb.2]
          have hky : ∀ x ∈ Ly, u2.heap[x]? = v2.heap[x]? := fun x hx => by
            have hb := hly x hx
            rw [g2.block x (by omega) (by intro c; injection c with c; omega), g1.block x (by omega) (by intro c; injection c with c; omega), ((HB3.out.trans (HB4.out.mono HB3.out.size))).block x hb.2]
          exact ⟨CX.out _ _ W2.heap.size hcu ((Below.refl _ _).grown g2 (by omega) (by intro x hx; injection hx with hx; omega)) (Nat.le_refl _), b1'.kept g2 (by intro c; injection c with c; omega), b2', (hvp.keep hkp).vl, (hvy.keep hky).vl⟩
        · refine ⟨_, rfl, by rfl, ?_⟩
          intro K hK
          refine oper_new rfl (fun w' => C w' ∧ Below v2.heap.size v2 w' ∧ Blk w' v2.heap.size 25 zer ∧ v2.heap.size < w'.heap.size) ⟨CB.out _ _ HC2.out ((Below.refl _ _).alloc (Nat.le_refl _) _), (Below.refl _ _).alloc (Nat.le_refl _) _, blk_new _ _ _, by simp⟩ ?_
          intro v3 H9
          refine hK _ _ (.inr H9.1) ?_
          clear hK K
          have HC3 : Hid (C v3) := H9.1
          have HB3 : Hid (Below v2.heap.size v2 v3) := H9.2.1
          have HA5 : Hid (Blk v3 v2.heap.size 25 zer ∧ v2.heap.size < v3.heap.size) := H9.2.2
          clear H9
          simp only [Act.put, List.setIfInBounds_toArray, List.set_cons_zero, List.set_cons_succ]
          refine one_of 2 rfl [4] (by kernel_rfl) (by simp) ?_
          intro i hi
          simp only [List.mem_cons, List.not_mem_nil, or_false] at hi
          subst hi
          refine ⟨_, rfl, by rfl, ?_⟩
          intro K hK
          refine oper_new rfl (fun w' => C w' ∧ Below v3.heap.size v3 w' ∧ Blk w' v3.heap.size 25 zer ∧ v3.heap.size < w'.heap.size) ⟨CB.out _ _ HC3.out ((Below.refl _ _).alloc (Nat.le_refl _) _), (Below.refl _ _).alloc (Nat.le_refl _) _, blk_new _ _ _, by simp⟩ ?_
          intro v4 H9
          refine hK _ _ (.inr H9.1) ?_
          clear hK K
          have HC4 : Hid (C v4) := H9.1
          have HB4 : Hid (Below v3.heap.size v3 v4) := H9.2.1
          have HA4 : Hid (Blk v4 v3.heap.size 25 zer ∧ v3.heap.size < v4.heap.size) := H9.2.2
          clear H9
          simp only [Act.put, List.setIfInBounds_toArray, List.set_cons_zero, List.set_cons_succ]
          have HB7 : Hid (Blk v4 (v3.heap.size) 25 zer) := HA4.out.1.below (Below.refl v4.heap.size v4) HA4.out.2
          have HB8 : Hid (Blk v4 (v2.heap.size) 25 zer) := HA5.out.1.below HB4.out HA5.out.2
          refine one_of 1 rfl [6] (by kernel_rfl) (by simp) ?_
          intro i hi
          obtain rfl := List.mem_singleton.1 hi
          refine ⟨_, rfl, by rfl, ?_⟩
          intro K hK
          refine oper_row 25 (.tmp 7) (.tmp 29) rfl (v3.heap.size) 0 25 [] zer [] (six p.1 na5 nc5 ka5 p.2.list.length kc5) rfl rfl rfl (by simpa using HB7.out) rfl s25 (six_one _ _ _ _ _ _) ?_
          intro u1 b1 g1
          have hcu : C u1 := by
            have hs0 := HSz.out _ HC0.out
            have hs3 := HS2.out
            have q1 := HB1.out.size
            have q2 := HB2.out.size
            have q3 := HB3.out.size
            have q4 := HB4.out.size
            exact CX.out _ _ W2.heap.size HC4.out ((Below.refl _ _).grown g1 (by omega) (by intro x hx; injection hx with hx; omega)) (Nat.le_refl _)
          refine hK _ _ (.inr hcu) ?_
          clear hK K hi
          have hb8 : Blk u1 (v2.heap.size) 25 zer := by
            have ha4 := HA4.out.2
            have ha5 := HA5.out.2
            have q1 := HB1.out.size
            have q2 := HB2.out.size
            have q3 := HB3.out.size
            have q4 := HB4.out.size
            exact HB8.out.kept g1 (by intro c; injection c with c; omega)
          refine one_of 0 rfl [7] (by kernel_rfl) (by simp) ?_
          intro i hi
          obtain rfl := List.mem_singleton.1 hi
          refine ⟨_, rfl, by rfl, ?_⟩
          intro K hK
          refine oper_row 25 (.tmp 8) (.tmp 31) rfl (v2.heap.size) 0 25 [] zer [] (six y.1 na6 nc6 ka6 y.2.list.length kc6) rfl rfl rfl (by simpa using hb8) rfl s25 (six_one _ _ _ _ _ _) ?_
          intro u2 b2 g2
          refine hK _ _ (.inl rfl) ?_
          clear hK K hi
          refine anyC_done (by kernel_rfl) ⟨rfl, ?_⟩
          refine ⟨rfl, v3.heap.size, v2.heap.size, na5, nc5, ka5, kc5, na6, nc6, ka6, kc6, rfl, ?_⟩
          obtain ⟨_, _, Lp, hvp, hlp⟩ := H5.out
          obtain ⟨_, _, Ly, hvy, hly⟩ := H6.out
          have hs0 := HSz.out _ HC0.out
          have hs3 := HS2.out
          have ha4 := HA4.out.2
          have ha5 := HA5.out.2
          have q1 := HB1.out.size
          have q2 := HB2.out.size
          have q3 := HB3.out.size
          have q4 := HB4.out.size
          have gs1 := g1.size
          have b1' : Blk u1 (v3.heap.size) 25 (six p.1 na5 nc5 ka5 p.2.list.length kc5) := by simpa using b1
          have b2' : Blk u2 (v2.heap.size) 25 (six y.1 na6 nc6 ka6 y.2.list.length kc6) := by simpa using b2
          have hkp : ∀ x ∈ Lp, u2.heap[x]? = v1.heap[x]? := fun x hx => by
            have hb := hlp x hx
            rw [g2.block x (by omega) (by intro c; injection c with c; omega), g1.block x (by omega) (by intro c; injection c with c; omega), (((HB2.out.trans (HB3.out.mono HB2.out.size)).trans (HB4.out.mono (HB2.out.trans (HB3.out.mono HB2.out.size)).size))).block x hb.2]
          have hky : ∀ x ∈ Ly, u2.heap[x]? = v2.heap[x]? := fun x hx => by
            have hb := hly x hx
            rw [g2.block x (by omega) (by intro c; injection c with c; omega), g1.block x (by omega) (by intro c; injection c with c; omega), ((HB3.out.trans (HB4.out.mono HB3.out.size))).block x hb.2]
          exact ⟨CX.out _ _ W2.heap.size hcu ((Below.refl _ _).grown g2 (by omega) (by intro x hx; injection hx with hx; omega)) (Nat.le_refl _), b1'.kept g2 (by intro c; injection c with c; omega), b2', (hvp.keep hkp).vl, (hvy.keep hky).vl⟩
      · refine ⟨_, rfl, by rfl, ?_⟩
        intro K hK
        refine oper_new rfl (fun w' => C w' ∧ Below v1.heap.size v1 w' ∧ Blk w' v1.heap.size 25 zer ∧ v1.heap.size < w'.heap.size) ⟨CB.out _ _ HC1.out ((Below.refl _ _).alloc (Nat.le_refl _) _), (Below.refl _ _).alloc (Nat.le_refl _) _, blk_new _ _ _, by simp⟩ ?_
        intro v2 H9
        refine hK _ _ (.inr H9.1) ?_
        clear hK K
        have HC2 : Hid (C v2) := H9.1
        have HB2 : Hid (Below v1.heap.size v1 v2) := H9.2.1
        have HA4 : Hid (Blk v2 v1.heap.size 25 zer ∧ v1.heap.size < v2.heap.size) := H9.2.2
        clear H9
        simp only [Act.put, List.setIfInBounds_toArray, List.set_cons_zero, List.set_cons_succ]
        refine one_of 3 rfl [3, 5] (by kernel_rfl) (by simp) ?_
        intro i hi
        simp only [List.mem_cons, List.not_mem_nil, or_false] at hi
        rcases hi with rfl | rfl
        · refine ⟨_, rfl, by rfl, ?_⟩
          intro K hK
          refine oper_calls 8 #[.tmp 30] #[25] rfl #[.agg #[.int .i64 y.1.k, .int .i64 y.1.n, .int .i64 y.1.s, .string y.1.t, .slice na2 y.1.ns.length nc2, .slice ka2 y.2.list.length kc2]] (by rw [List.map_toArray]; rfl) enters8 _ (K2.out _ HC2.out) ?_
          rintro v v3 ⟨na6, nc6, ka6, kc6, rfl, H6⟩
          refine hK _ _ (.inr H6.out.1) ?_
          clear hK K
          have HC3 : Hid (C v3) := H6.out.1
          have HB3 : Hid (Below v2.heap.size v2 v3) := H6.out.2.1
          simp only [Act.put, List.setIfInBounds_toArray, List.set_cons_zero, List.set_cons_succ]
          refine one_of 2 rfl [5] (by kernel_rfl) (by simp) ?_
          intro i hi
          simp only [List.mem_cons, List.not_mem_nil, or_false] at hi
          subst hi
          refine ⟨_, rfl, by rfl, ?_⟩
          intro K hK
          refine oper_new rfl (fun w' => C w' ∧ Below v3.heap.size v3 w' ∧ Blk w' v3.heap.size 25 zer ∧ v3.heap.size < w'.heap.size) ⟨CB.out _ _ HC3.out ((Below.refl _ _).alloc (Nat.le_refl _) _), (Below.refl _ _).alloc (Nat.le_refl _) _, blk_new _ _ _, by simp⟩ ?_
          intro v4 H9
          refine hK _ _ (.inr H9.1) ?_
          clear hK K
          have HC4 : Hid (C v4) := H9.1
          have HB4 : Hid (Below v3.heap.size v3 v4) := H9.2.1
          have HA5 : Hid (Blk v4 v3.heap.size 25 zer ∧ v3.heap.size < v4.heap.size) := H9.2.2
          clear H9
          simp only [Act.put, List.setIfInBounds_toArray, List.set_cons_zero, List.set_cons_succ]
          have HB7 : Hid (Blk v4 (v1.heap.size) 25 zer) := HA4.out.1.below (HB3.out.trans (HB4.out.mono HB3.out.size)) HA4.out.2
          have HB8 : Hid (Blk v4 (v3.heap.size) 25 zer) := HA5.out.1.below (Below.refl v4.heap.size v4) HA5.out.2
          refine one_of 1 rfl [6] (by kernel_rfl) (by simp) ?_
          intro i hi
          obtain rfl := List.mem_singleton.1 hi
          refine ⟨_, rfl, by rfl, ?_⟩
          intro K hK
          refine oper_row 25 (.tmp 7) (.tmp 29) rfl (v1.heap.size) 0 25 [] zer [] (six p.1 na5 nc5 ka5 p.2.list.length kc5) rfl rfl rfl (by simpa using HB7.out) rfl s25 (six_one _ _ _ _ _ _) ?_
          intro u1 b1 g1
          have hcu : C u1 := by
            have hs0 := HSz.out _ HC0.out
            have hs3 := HS2.out
            have q1 := HB1.out.size
            have q2 := HB2.out.size
            have q3 := HB3.out.size
            have q4 := HB4.out.size
            exact CX.out _ _ W2.heap.size HC4.out ((Below.refl _ _).grown g1 (by omega) (by intro x hx; injection hx with hx; omega)) (Nat.le_refl _)
          refine hK _ _ (.inr hcu) ?_
          clear hK K hi
          have hb8 : Blk u1 (v3.heap.size) 25 zer := by
            have ha4 := HA4.out.2
            have ha5 := HA5.out.2
            have q1 := HB1.out.size
            have q2 := HB2.out.size
            have q3 := HB3.out.size
            have q4 := HB4.out.size
            exact HB8.out.kept g1 (by intro c; injection c with c; omega)
          refine one_of 0 rfl [7] (by kernel_rfl) (by simp) ?_
          intro i hi
          obtain rfl := List.mem_singleton.1 hi
          refine ⟨_, rfl, by rfl, ?_⟩
          intro K hK
          refine oper_row 25 (.tmp 8) (.tmp 31) rfl (v3.heap.size) 0 25 [] zer [] (six y.1 na6 nc6 ka6 y.2.list.length kc6) rfl rfl rfl (by simpa using hb8) rfl s25 (six_one _ _ _ _ _ _) ?_
          intro u2 b2 g2
          refine hK _ _ (.inl rfl) ?_
          clear hK K hi
          refine anyC_done (by kernel_rfl) ⟨rfl, ?_⟩
          refine ⟨rfl, v1.heap.size, v3.heap.size, na5, nc5, ka5, kc5, na6, nc6, ka6, kc6, rfl, ?_⟩
          obtain ⟨_, _, Lp, hvp, hlp⟩ := H5.out
          obtain ⟨_, _, Ly, hvy, hly⟩ := H6.out
          have hs0 := HSz.out _ HC0.out
          have hs3 := HS2.out
          have ha4 := HA4.out.2
          have ha5 := HA5.out.2
          have q1 := HB1.out.size
          have q2 := HB2.out.size
          have q3 := HB3.out.size
          have q4 := HB4.out.size
          have gs1 := g1.size
          have b1' : Blk u1 (v1.heap.size) 25 (six p.1 na5 nc5 ka5 p.2.list.length kc5) := by simpa using b1
          have b2' : Blk u2 (v3.heap.size) 25 (six y.1 na6 nc6 ka6 y.2.list.length kc6) := by simpa using b2
          have hkp : ∀ x ∈ Lp, u2.heap[x]? = v1.heap[x]? := fun x hx => by
            have hb := hlp x hx
            rw [g2.block x (by omega) (by intro c; injection c with c; omega), g1.block x (by omega) (by intro c; injection c with c; omega), (((HB2.out.trans (HB3.out.mono HB2.out.size)).trans (HB4.out.mono (HB2.out.trans (HB3.out.mono HB2.out.size)).size))).block x hb.2]
          have hky : ∀ x ∈ Ly, u2.heap[x]? = v3.heap[x]? := fun x hx => by
            have hb := hly x hx
            rw [g2.block x (by omega) (by intro c; injection c with c; omega), g1.block x (by omega) (by intro c; injection c with c; omega), (HB4.out).block x hb.2]
          exact ⟨CX.out _ _ W2.heap.size hcu ((Below.refl _ _).grown g2 (by omega) (by intro x hx; injection hx with hx; omega)) (Nat.le_refl _), b1'.kept g2 (by intro c; injection c with c; omega), b2', (hvp.keep hkp).vl, (hvy.keep hky).vl⟩
        · refine ⟨_, rfl, by rfl, ?_⟩
          intro K hK
          refine oper_new rfl (fun w' => C w' ∧ Below v2.heap.size v2 w' ∧ Blk w' v2.heap.size 25 zer ∧ v2.heap.size < w'.heap.size) ⟨CB.out _ _ HC2.out ((Below.refl _ _).alloc (Nat.le_refl _) _), (Below.refl _ _).alloc (Nat.le_refl _) _, blk_new _ _ _, by simp⟩ ?_
          intro v3 H9
          refine hK _ _ (.inr H9.1) ?_
          clear hK K
          have HC3 : Hid (C v3) := H9.1
          have HB3 : Hid (Below v2.heap.size v2 v3) := H9.2.1
          have HA5 : Hid (Blk v3 v2.heap.size 25 zer ∧ v2.heap.size < v3.heap.size) := H9.2.2
          clear H9
          simp only [Act.put, List.setIfInBounds_toArray, List.set_cons_zero, List.set_cons_succ]
          refine one_of 2 rfl [3] (by kernel_rfl) (by simp) ?_
          intro i hi
          simp only [List.mem_cons, List.not_mem_nil, or_false] at hi
          subst hi
          refine ⟨_, rfl, by rfl, ?_⟩
          intro K hK
          refine oper_calls 8 #[.tmp 30] #[25] rfl #[.agg #[.int .i64 y.1.k, .int .i64 y.1.n, .int .i64 y.1.s, .string y.1.t, .slice na2 y.1.ns.length nc2, .slice ka2 y.2.list.length kc2]] (by rw [List.map_toArray]; rfl) enters8 _ (K2.out _ HC3.out) ?_
          rintro v v4 ⟨na6, nc6, ka6, kc6, rfl, H6⟩
          refine hK _ _ (.inr H6.out.1) ?_
          clear hK K
          have HC4 : Hid (C v4) := H6.out.1
          have HB4 : Hid (Below v3.heap.size v3 v4) := H6.out.2.1
          simp only [Act.put, List.setIfInBounds_toArray, List.set_cons_zero, List.set_cons_succ]
          have HB7 : Hid (Blk v4 (v1.heap.size) 25 zer) := HA4.out.1.below (HB3.out.trans (HB4.out.mono HB3.out.size)) HA4.out.2
          have HB8 : Hid (Blk v4 (v2.heap.size) 25 zer) := HA5.out.1.below HB4.out HA5.out.2
          refine one_of 1 rfl [6] (by kernel_rfl) (by simp) ?_
          intro i hi
          obtain rfl := List.mem_singleton.1 hi
          refine ⟨_, rfl, by rfl, ?_⟩
          intro K hK
          refine oper_row 25 (.tmp 7) (.tmp 29) rfl (v1.heap.size) 0 25 [] zer [] (six p.1 na5 nc5 ka5 p.2.list.length kc5) rfl rfl rfl (by simpa using HB7.out) rfl s25 (six_one _ _ _ _ _ _) ?_
          intro u1 b1 g1
          have hcu : C u1 := by
            have hs0 := HSz.out _ HC0.out
            have hs3 := HS2.out
            have q1 := HB1.out.size
            have q2 := HB2.out.size
            have q3 := HB3.out.size
            have q4 := HB4.out.size
            exact CX.out _ _ W2.heap.size HC4.out ((Below.refl _ _).grown g1 (by omega) (by intro x hx; injection hx with hx; omega)) (Nat.le_refl _)
          refine hK _ _ (.inr hcu) ?_
          clear hK K hi
          have hb8 : Blk u1 (v2.heap.size) 25 zer := by
            have ha4 := HA4.out.2
            have ha5 := HA5.out.2
            have q1 := HB1.out.size
            have q2 := HB2.out.size
            have q3 := HB3.out.size
            have q4 := HB4.out.size
            exact HB8.out.kept g1 (by intro c; injection c with c; omega)
          refine one_of 0 rfl [7] (by kernel_rfl) (by simp) ?_
          intro i hi
          obtain rfl := List.mem_singleton.1 hi
          refine ⟨_, rfl, by rfl, ?_⟩
          intro K hK
          refine oper_row 25 (.tmp 8) (.tmp 31) rfl (v2.heap.size) 0 25 [] zer [] (six y.1 na6 nc6 ka6 y.2.list.length kc6) rfl rfl rfl (by simpa using hb8) rfl s25 (six_one _ _ _ _ _ _) ?_
          intro u2 b2 g2
          refine hK _ _ (.inl rfl) ?_
          clear hK K hi
          refine anyC_done (by kernel_rfl) ⟨rfl, ?_⟩
          refine ⟨rfl, v1.heap.size, v2.heap.size, na5, nc5, ka5, kc5, na6, nc6, ka6, kc6, rfl, ?_⟩
          obtain ⟨_, _, Lp, hvp, hlp⟩ := H5.out
          obtain ⟨_, _, Ly, hvy, hly⟩ := H6.out
          have hs0 := HSz.out _ HC0.out
          have hs3 := HS2.out
          have ha4 := HA4.out.2
          have ha5 := HA5.out.2
          have q1 := HB1.out.size
          have q2 := HB2.out.size
          have q3 := HB3.out.size
          have q4 := HB4.out.size
          have gs1 := g1.size
          have b1' : Blk u1 (v1.heap.size) 25 (six p.1 na5 nc5 ka5 p.2.list.length kc5) := by simpa using b1
          have b2' : Blk u2 (v2.heap.size) 25 (six y.1 na6 nc6 ka6 y.2.list.length kc6) := by simpa using b2
          have hkp : ∀ x ∈ Lp, u2.heap[x]? = v1.heap[x]? := fun x hx => by
            have hb := hlp x hx
            rw [g2.block x (by omega) (by intro c; injection c with c; omega), g1.block x (by omega) (by intro c; injection c with c; omega), (((HB2.out.trans (HB3.out.mono HB2.out.size)).trans (HB4.out.mono (HB2.out.trans (HB3.out.mono HB2.out.size)).size))).block x hb.2]
          have hky : ∀ x ∈ Ly, u2.heap[x]? = v4.heap[x]? := fun x hx => by
            have hb := hly x hx
            rw [g2.block x (by omega) (by intro c; injection c with c; omega), g1.block x (by omega) (by intro c; injection c with c; omega), ((Below.refl v4.heap.size v4)).block x hb.2]
          exact ⟨CX.out _ _ W2.heap.size hcu ((Below.refl _ _).grown g2 (by omega) (by intro x hx; injection hx with hx; omega)) (Nat.le_refl _), b1'.kept g2 (by intro c; injection c with c; omega), b2', (hvp.keep hkp).vl, (hvy.keep hky).vl⟩
      · refine ⟨_, rfl, by rfl, ?_⟩
        intro K hK
        refine oper_new rfl (fun w' => C w' ∧ Below v1.heap.size v1 w' ∧ Blk w' v1.heap.size 25 zer ∧ v1.heap.size < w'.heap.size) ⟨CB.out _ _ HC1.out ((Below.refl _ _).alloc (Nat.le_refl _) _), (Below.refl _ _).alloc (Nat.le_refl _) _, blk_new _ _ _, by simp⟩ ?_
        intro v2 H9
        refine hK _ _ (.inr H9.1) ?_
        clear hK K
        have HC2 : Hid (C v2) := H9.1
        have HB2 : Hid (Below v1.heap.size v1 v2) := H9.2.1
        have HA5 : Hid (Blk v2 v1.heap.size 25 zer ∧ v1.heap.size < v2.heap.size) := H9.2.2
        clear H9
        simp only [Act.put, List.setIfInBounds_toArray, List.set_cons_zero, List.set_cons_succ]
        refine one_of 3 rfl [3, 4] (by kernel_rfl) (by simp) ?_
        intro i hi
        simp only [List.mem_cons, List.not_mem_nil, or_false] at hi
        rcases hi with rfl | rfl
        · refine ⟨_, rfl, by rfl, ?_⟩
          intro K hK
          refine oper_calls 8 #[.tmp 30] #[25] rfl #[.agg #[.int .i64 y.1.k, .int .i64 y.1.n, .int .i64 y.1.s, .string y.1.t, .slice na2 y.1.ns.length nc2, .slice ka2 y.2.list.length kc2]] (by rw [List.map_toArray]; rfl) enters8 _ (K2.out _ HC2.out) ?_
          rintro v v3 ⟨na6, nc6, ka6, kc6, rfl, H6⟩
          refine hK _ _ (.inr H6.out.1) ?_
          clear hK K
          have HC3 : Hid (C v3) := H6.out.1
          have HB3 : Hid (Below v2.heap.size v2 v3) := H6.out.2.1
          simp only [Act.put, List.setIfInBounds_toArray, List.set_cons_zero, List.set_cons_succ]
          refine one_of 2 rfl [4] (by kernel_rfl) (by simp) ?_
          intro i hi
          simp only [List.mem_cons, List.not_mem_nil, or_false] at hi
          subst hi
          refine ⟨_, rfl, by rfl, ?_⟩
          intro K hK
          refine oper_new rfl (fun w' => C w' ∧ Below v3.heap.size v3 w' ∧ Blk w' v3.heap.size 25 zer ∧ v3.heap.size < w'.heap.size) ⟨CB.out _ _ HC3.out ((Below.refl _ _).alloc (Nat.le_refl _) _), (Below.refl _ _).alloc (Nat.le_refl _) _, blk_new _ _ _, by simp⟩ ?_
          intro v4 H9
          refine hK _ _ (.inr H9.1) ?_
          clear hK K
          have HC4 : Hid (C v4) := H9.1
          have HB4 : Hid (Below v3.heap.size v3 v4) := H9.2.1
          have HA4 : Hid (Blk v4 v3.heap.size 25 zer ∧ v3.heap.size < v4.heap.size) := H9.2.2
          clear H9
          simp only [Act.put, List.setIfInBounds_toArray, List.set_cons_zero, List.set_cons_succ]
          have HB7 : Hid (Blk v4 (v3.heap.size) 25 zer) := HA4.out.1.below (Below.refl v4.heap.size v4) HA4.out.2
          have HB8 : Hid (Blk v4 (v1.heap.size) 25 zer) := HA5.out.1.below (HB3.out.trans (HB4.out.mono HB3.out.size)) HA5.out.2
          refine one_of 1 rfl [6] (by kernel_rfl) (by simp) ?_
          intro i hi
          obtain rfl := List.mem_singleton.1 hi
          refine ⟨_, rfl, by rfl, ?_⟩
          intro K hK
          refine oper_row 25 (.tmp 7) (.tmp 29) rfl (v3.heap.size) 0 25 [] zer [] (six p.1 na5 nc5 ka5 p.2.list.length kc5) rfl rfl rfl (by simpa using HB7.out) rfl s25 (six_one _ _ _ _ _ _) ?_
          intro u1 b1 g1
          have hcu : C u1 := by
            have hs0 := HSz.out _ HC0.out
            have hs3 := HS2.out
            have q1 := HB1.out.size
            have q2 := HB2.out.size
            have q3 := HB3.out.size
            have q4 := HB4.out.size
            exact CX.out _ _ W2.heap.size HC4.out ((Below.refl _ _).grown g1 (by omega) (by intro x hx; injection hx with hx; omega)) (Nat.le_refl _)
          refine hK _ _ (.inr hcu) ?_
          clear hK K hi
          have hb8 : Blk u1 (v1.heap.size) 25 zer := by
            have ha4 := HA4.out.2
            have ha5 := HA5.out.2
            have q1 := HB1.out.size
            have q2 := HB2.out.size
            have q3 := HB3.out.size
            have q4 := HB4.out.size
            exact HB8.out.kept g1 (by intro c; injection c with c; omega)
          refine one_of 0 rfl [7] (by kernel_rfl) (by simp) ?_
          intro i hi
          obtain rfl := List.mem_singleton.1 hi
          refine ⟨_, rfl, by rfl, ?_⟩
          intro K hK
          refine oper_row 25 (.tmp 8) (.tmp 31) rfl (v1.heap.size) 0 25 [] zer [] (six y.1 na6 nc6 ka6 y.2.list.length kc6) rfl rfl rfl (by simpa using hb8) rfl s25 (six_one _ _ _ _ _ _) ?_
          intro u2 b2 g2
          refine hK _ _ (.inl rfl) ?_
          clear hK K hi
          refine anyC_done (by kernel_rfl) ⟨rfl, ?_⟩
          refine ⟨rfl, v3.heap.size, v1.heap.size, na5, nc5, ka5, kc5, na6, nc6, ka6, kc6, rfl, ?_⟩
          obtain ⟨_, _, Lp, hvp, hlp⟩ := H5.out
          obtain ⟨_, _, Ly, hvy, hly⟩ := H6.out
          have hs0 := HSz.out _ HC0.out
          have hs3 := HS2.out
          have ha4 := HA4.out.2
          have ha5 := HA5.out.2
          have q1 := HB1.out.size
          have q2 := HB2.out.size
          have q3 := HB3.out.size
          have q4 := HB4.out.size
          have gs1 := g1.size
          have b1' : Blk u1 (v3.heap.size) 25 (six p.1 na5 nc5 ka5 p.2.list.length kc5) := by simpa using b1
          have b2' : Blk u2 (v1.heap.size) 25 (six y.1 na6 nc6 ka6 y.2.list.length kc6) := by simpa using b2
          have hkp : ∀ x ∈ Lp, u2.heap[x]? = v1.heap[x]? := fun x hx => by
            have hb := hlp x hx
            rw [g2.block x (by omega) (by intro c; injection c with c; omega), g1.block x (by omega) (by intro c; injection c with c; omega), (((HB2.out.trans (HB3.out.mono HB2.out.size)).trans (HB4.out.mono (HB2.out.trans (HB3.out.mono HB2.out.size)).size))).block x hb.2]
          have hky : ∀ x ∈ Ly, u2.heap[x]? = v3.heap[x]? := fun x hx => by
            have hb := hly x hx
            rw [g2.block x (by omega) (by intro c; injection c with c; omega), g1.block x (by omega) (by intro c; injection c with c; omega), (HB4.out).block x hb.2]
          exact ⟨CX.out _ _ W2.heap.size hcu ((Below.refl _ _).grown g2 (by omega) (by intro x hx; injection hx with hx; omega)) (Nat.le_refl _), b1'.kept g2 (by intro c; injection c with c; omega), b2', (hvp.keep hkp).vl, (hvy.keep hky).vl⟩
        · refine ⟨_, rfl, by rfl, ?_⟩
          intro K hK
          refine oper_new rfl (fun w' => C w' ∧ Below v2.heap.size v2 w' ∧ Blk w' v2.heap.size 25 zer ∧ v2.heap.size < w'.heap.size) ⟨CB.out _ _ HC2.out ((Below.refl _ _).alloc (Nat.le_refl _) _), (Below.refl _ _).alloc (Nat.le_refl _) _, blk_new _ _ _, by simp⟩ ?_
          intro v3 H9
          refine hK _ _ (.inr H9.1) ?_
          clear hK K
          have HC3 : Hid (C v3) := H9.1
          have HB3 : Hid (Below v2.heap.size v2 v3) := H9.2.1
          have HA4 : Hid (Blk v3 v2.heap.size 25 zer ∧ v2.heap.size < v3.heap.size) := H9.2.2
          clear H9
          simp only [Act.put, List.setIfInBounds_toArray, List.set_cons_zero, List.set_cons_succ]
          refine one_of 2 rfl [3] (by kernel_rfl) (by simp) ?_
          intro i hi
          simp only [List.mem_cons, List.not_mem_nil, or_false] at hi
          subst hi
          refine ⟨_, rfl, by rfl, ?_⟩
          intro K hK
          refine oper_calls 8 #[.tmp 30] #[25] rfl #[.agg #[.int .i64 y.1.k, .int .i64 y.1.n, .int .i64 y.1.s, .string y.1.t, .slice na2 y.1.ns.length nc2, .slice ka2 y.2.list.length kc2]] (by rw [List.map_toArray]; rfl) enters8 _ (K2.out _ HC3.out) ?_
          rintro v v4 ⟨na6, nc6, ka6, kc6, rfl, H6⟩
          refine hK _ _ (.inr H6.out.1) ?_
          clear hK K
          have HC4 : Hid (C v4) := H6.out.1
          have HB4 : Hid (Below v3.heap.size v3 v4) := H6.out.2.1
          simp only [Act.put, List.setIfInBounds_toArray, List.set_cons_zero, List.set_cons_succ]
          have HB7 : Hid (Blk v4 (v2.heap.size) 25 zer) := HA4.out.1.below HB4.out HA4.out.2
          have HB8 : Hid (Blk v4 (v1.heap.size) 25 zer) := HA5.out.1.below (HB3.out.trans (HB4.out.mono HB3.out.size)) HA5.out.2
          refine one_of 1 rfl [6] (by kernel_rfl) (by simp) ?_
          intro i hi
          obtain rfl := List.mem_singleton.1 hi
          refine ⟨_, rfl, by rfl, ?_⟩
          intro K hK
          refine oper_row 25 (.tmp 7) (.tmp 29) rfl (v2.heap.size) 0 25 [] zer [] (six p.1 na5 nc5 ka5 p.2.list.length kc5) rfl rfl rfl (by simpa using HB7.out) rfl s25 (six_one _ _ _ _ _ _) ?_
          intro u1 b1 g1
          have hcu : C u1 := by
            have hs0 := HSz.out _ HC0.out
            have hs3 := HS2.out
            have q1 := HB1.out.size
            have q2 := HB2.out.size
            have q3 := HB3.out.size
            have q4 := HB4.out.size
            exact CX.out _ _ W2.heap.size HC4.out ((Below.refl _ _).grown g1 (by omega) (by intro x hx; injection hx with hx; omega)) (Nat.le_refl _)
          refine hK _ _ (.inr hcu) ?_
          clear hK K hi
          have hb8 : Blk u1 (v1.heap.size) 25 zer := by
            have ha4 := HA4.out.2
            have ha5 := HA5.out.2
            have q1 := HB1.out.size
            have q2 := HB2.out.size
            have q3 := HB3.out.size
            have q4 := HB4.out.size
            exact HB8.out.kept g1 (by intro c; injection c with c; omega)
          refine one_of 0 rfl [7] (by kernel_rfl) (by simp) ?_
          intro i hi
          obtain rfl := List.mem_singleton.1 hi
          refine ⟨_, rfl, by rfl, ?_⟩
          intro K hK
          refine oper_row 25 (.tmp 8) (.tmp 31) rfl (v1.heap.size) 0 25 [] zer [] (six y.1 na6 nc6 ka6 y.2.list.length kc6) rfl rfl rfl (by simpa using hb8) rfl s25 (six_one _ _ _ _ _ _) ?_
          intro u2 b2 g2
          refine hK _ _ (.inl rfl) ?_
          clear hK K hi
          refine anyC_done (by kernel_rfl) ⟨rfl, ?_⟩
          refine ⟨rfl, v2.heap.size, v1.heap.size, na5, nc5, ka5, kc5, na6, nc6, ka6, kc6, rfl, ?_⟩
          obtain ⟨_, _, Lp, hvp, hlp⟩ := H5.out
          obtain ⟨_, _, Ly, hvy, hly⟩ := H6.out
          have hs0 := HSz.out _ HC0.out
          have hs3 := HS2.out
          have ha4 := HA4.out.2
          have ha5 := HA5.out.2
          have q1 := HB1.out.size
          have q2 := HB2.out.size
          have q3 := HB3.out.size
          have q4 := HB4.out.size
          have gs1 := g1.size
          have b1' : Blk u1 (v2.heap.size) 25 (six p.1 na5 nc5 ka5 p.2.list.length kc5) := by simpa using b1
          have b2' : Blk u2 (v1.heap.size) 25 (six y.1 na6 nc6 ka6 y.2.list.length kc6) := by simpa using b2
          have hkp : ∀ x ∈ Lp, u2.heap[x]? = v1.heap[x]? := fun x hx => by
            have hb := hlp x hx
            rw [g2.block x (by omega) (by intro c; injection c with c; omega), g1.block x (by omega) (by intro c; injection c with c; omega), (((HB2.out.trans (HB3.out.mono HB2.out.size)).trans (HB4.out.mono (HB2.out.trans (HB3.out.mono HB2.out.size)).size))).block x hb.2]
          have hky : ∀ x ∈ Ly, u2.heap[x]? = v4.heap[x]? := fun x hx => by
            have hb := hly x hx
            rw [g2.block x (by omega) (by intro c; injection c with c; omega), g1.block x (by omega) (by intro c; injection c with c; omega), ((Below.refl v4.heap.size v4)).block x hb.2]
          exact ⟨CX.out _ _ W2.heap.size hcu ((Below.refl _ _).grown g2 (by omega) (by intro x hx; injection hx with hx; omega)) (Nat.le_refl _), b1'.kept g2 (by intro c; injection c with c; omega), b2', (hvp.keep hkp).vl, (hvy.keep hky).vl⟩
    · refine ⟨_, rfl, by rfl, ?_⟩
      intro K hK
      refine oper_new rfl (fun w' => C w' ∧ Below v0.heap.size v0 w' ∧ Blk w' v0.heap.size 25 zer ∧ v0.heap.size < w'.heap.size) ⟨CB.out _ _ HC0.out ((Below.refl _ _).alloc (Nat.le_refl _) _), (Below.refl _ _).alloc (Nat.le_refl _) _, blk_new _ _ _, by simp⟩ ?_
      intro v1 H9
      refine hK _ _ (.inr H9.1) ?_
      clear hK K
      have HC1 : Hid (C v1) := H9.1
      have HB1 : Hid (Below v0.heap.size v0 v1) := H9.2.1
      have HA4 : Hid (Blk v1 v0.heap.size 25 zer ∧ v0.heap.size < v1.heap.size) := H9.2.2
      clear H9
      simp only [Act.put, List.setIfInBounds_toArray, List.set_cons_zero, List.set_cons_succ]
      refine one_of 4 rfl [1, 5] (by kernel_rfl) (by simp) ?_
      intro i hi
      simp only [List.mem_cons, List.not_mem_nil, or_false] at hi
      rcases hi with rfl | rfl
      · refine ⟨_, rfl, by rfl, ?_⟩
        intro K hK
        refine oper_calls 8 #[.tmp 28] #[25] rfl #[.agg #[.int .i64 p.1.k, .int .i64 p.1.n, .int .i64 p.1.s, .string p.1.t, .slice na p.1.ns.length nc, .slice ka p.2.list.length kc]] (by rw [List.map_toArray]; rfl) enters8 _ (K1.out _ HC1.out) ?_
        rintro v v2 ⟨na5, nc5, ka5, kc5, rfl, H5⟩
        refine hK _ _ (.inr H5.out.1) ?_
        clear hK K
        have HC2 : Hid (C v2) := H5.out.1
        have HB2 : Hid (Below v1.heap.size v1 v2) := H5.out.2.1
        simp only [Act.put, List.setIfInBounds_toArray, List.set_cons_zero, List.set_cons_succ]
        refine one_of 3 rfl [3, 5] (by kernel_rfl) (by simp) ?_
        intro i hi
        simp only [List.mem_cons, List.not_mem_nil, or_false] at hi
        rcases hi with rfl | rfl
        · refine ⟨_, rfl, by rfl, ?_⟩
          intro K hK
          refine oper_calls 8 #[.tmp 30] #[25] rfl #[.agg #[.int .i64 y.1.k, .int .i64 y.1.n, .int .i64 y.1.s, .string y.1.t, .slice na2 y.1.ns.length nc2, .slice ka2 y.2.list.length kc2]] (by rw [List.map_toArray]; rfl) enters8 _ (K2.out _ HC2.out) ?_
          rintro v v3 ⟨na6, nc6, ka6, kc6, rfl, H6⟩
          refine hK _ _ (.inr H6.out.1) ?_
          clear hK K
          have HC3 : Hid (C v3) := H6.out.1
          have HB3 : Hid (Below v2.heap.size v2 v3) := H6.out.2.1
          simp only [Act.put, List.setIfInBounds_toArray, List.set_cons_zero, List.set_cons_succ]
          refine one_of 2 rfl [5] (by kernel_rfl) (by simp) ?_
          intro i hi
          simp only [List.mem_cons, List.not_mem_nil, or_false] at hi
          subst hi
          refine ⟨_, rfl, by rfl, ?_⟩
          intro K hK
          refine oper_new rfl (fun w' => C w' ∧ Below v3.heap.size v3 w' ∧ Blk w' v3.heap.size 25 zer ∧ v3.heap.size < w'.heap.size) ⟨CB.out _ _ HC3.out ((Below.refl _ _).alloc (Nat.le_refl _) _), (Below.refl _ _).alloc (Nat.le_refl _) _, blk_new _ _ _, by simp⟩ ?_
          intro v4 H9
          refine hK _ _ (.inr H9.1) ?_
          clear hK K
          have HC4 : Hid (C v4) := H9.1
          have HB4 : Hid (Below v3.heap.size v3 v4) := H9.2.1
          have HA5 : Hid (Blk v4 v3.heap.size 25 zer ∧ v3.heap.size < v4.heap.size) := H9.2.2
          clear H9
          simp only [Act.put, List.setIfInBounds_toArray, List.set_cons_zero, List.set_cons_succ]
          have HB7 : Hid (Blk v4 (v0.heap.size) 25 zer) := HA4.out.1.below ((HB2.out.trans (HB3.out.mono HB2.out.size)).trans (HB4.out.mono (HB2.out.trans (HB3.out.mono HB2.out.size)).size)) HA4.out.2
          have HB8 : Hid (Blk v4 (v3.heap.size) 25 zer) := HA5.out.1.below (Below.refl v4.heap.size v4) HA5.out.2
          refine one_of 1 rfl [6] (by kernel_rfl) (by simp) ?_
          intro i hi
          obtain rfl := List.mem_singleton.1 hi
          refine ⟨_, rfl, by rfl, ?_⟩
          intro K hK
          refine oper_row 25 (.tmp 7) (.tmp 29) rfl (v0.heap.size) 0 25 [] zer [] (six p.1 na5 nc5 ka5 p.2.list.length kc5) rfl rfl rfl (by simpa using HB7.out) rfl s25 (six_one _ _ _ _ _ _) ?_
          intro u1 b1 g1
          have hcu : C u1 := by
            have hs0 := HSz.out _ HC0.out
            have hs3 := HS2.out
            have q1 := HB1.out.size
            have q2 := HB2.out.size
            have q3 := HB3.out.size
            have q4 := HB4.out.size
            exact CX.out _ _ W2.heap.size HC4.out ((Below.refl _ _).grown g1 (by omega) (by intro x hx; injection hx with hx; omega)) (Nat.le_refl _)
          refine hK _ _ (.inr hcu) ?_
          clear hK K hi
          have hb8 : Blk u1 (v3.heap.size) 25 zer := by
            have ha4 := HA4.out.2
            have ha5 := HA5.out.2
            have q1 := HB1.out.size
            have q2 := HB2.out.size
            have q3 := HB3.out.size
            have q4 := HB4.out.size
            exact HB8.out.kept g1 (by intro c; injection c with c; omega)
          refine one_of 0 rfl [7] (by kernel_rfl) (by simp) ?_
          intro i hi
          obtain rfl := List.mem_singleton.1 hi
          refine ⟨_, rfl, by rfl, ?_⟩
          intro K hK
          refine oper_row 25 (.tmp 8) (.tmp 31) rfl (v3.heap.size) 0 25 [] zer [] (six y.1 na6 nc6 ka6 y.2.list.length kc6) rfl rfl rfl (by simpa using hb8) rfl s25 (six_one _ _ _ _ _ _) ?_
          intro u2 b2 g2
          refine hK _ _ (.inl rfl) ?_
          clear hK K hi
          refine anyC_done (by kernel_rfl) ⟨rfl, ?_⟩
          refine ⟨rfl, v0.heap.size, v3.heap.size, na5, nc5, ka5, kc5, na6, nc6, ka6, kc6, rfl, ?_⟩
          obtain ⟨_, _, Lp, hvp, hlp⟩ := H5.out
          obtain ⟨_, _, Ly, hvy, hly⟩ := H6.out
          have hs0 := HSz.out _ HC0.out
          have hs3 := HS2.out
          have ha4 := HA4.out.2
          have ha5 := HA5.out.2
          have q1 := HB1.out.size
          have q2 := HB2.out.size
          have q3 := HB3.out.size
          have q4 := HB4.out.size
          have gs1 := g1.size
          have b1' : Blk u1 (v0.heap.size) 25 (six p.1 na5 nc5 ka5 p.2.list.length kc5) := by simpa using b1
          have b2' : Blk u2 (v3.heap.size) 25 (six y.1 na6 nc6 ka6 y.2.list.length kc6) := by simpa using b2
          have hkp : ∀ x ∈ Lp, u2.heap[x]? = v2.heap[x]? := fun x hx => by
            have hb := hlp x hx
            rw [g2.block x (by omega) (by intro c; injection c with c; omega), g1.block x (by omega) (by intro c; injection c with c; omega), ((HB3.out.trans (HB4.out.mono HB3.out.size))).block x hb.2]
          have hky : ∀ x ∈ Ly, u2.heap[x]? = v3.heap[x]? := fun x hx => by
            have hb := hly x hx
            rw [g2.block x (by omega) (by intro c; injection c with c; omega), g1.block x (by omega) (by intro c; injection c with c; omega), (HB4.out).block x hb.2]
          exact ⟨CX.out _ _ W2.heap.size hcu ((Below.refl _ _).grown g2 (by omega) (by intro x hx; injection hx with hx; omega)) (Nat.le_refl _), b1'.kept g2 (by intro c; injection c with c; omega), b2', (hvp.keep hkp).vl, (hvy.keep hky).vl⟩
        · refine ⟨_, rfl, by rfl, ?_⟩
          intro K hK
          refine oper_new rfl (fun w' => C w' ∧ Below v2.heap.size v2 w' ∧ Blk w' v2.heap.size 25 zer ∧ v2.heap.size < w'.heap.size) ⟨CB.out _ _ HC2.out ((Below.refl _ _).alloc (Nat.le_refl _) _), (Below.refl _ _).alloc (Nat.le_refl _) _, blk_new _ _ _, by simp⟩ ?_
          intro v3 H9
          refine hK _ _ (.inr H9.1) ?_
          clear hK K
          have HC3 : Hid (C v3) := H9.1
          have HB3 : Hid (Below v2.heap.size v2 v3) := H9.2.1
          have HA5 : Hid (Blk v3 v2.heap.size 25 zer ∧ v2.heap.size < v3.heap.size) := H9.2.2
          clear H9
          simp only [Act.put, List.setIfInBounds_toArray, List.set_cons_zero, List.set_cons_succ]
          refine one_of 2 rfl [3] (by kernel_rfl) (by simp) ?_
          intro i hi
          simp only [List.mem_cons, List.not_mem_nil, or_false] at hi
          subst hi
          refine ⟨_, rfl, by rfl, ?_⟩
          intro K hK
          refine oper_calls 8 #[.tmp 30] #[25] rfl #[.agg #[.int .i64 y.1.k, .int .i64 y.1.n, .int .i64 y.1.s, .string y.1.t, .slice na2 y.1.ns.length nc2, .slice ka2 y.2.list.length kc2]] (by rw [List.map_toArray]; rfl) enters8 _ (K2.out _ HC3.out) ?_
          rintro v v4 ⟨na6, nc6, ka6, kc6, rfl, H6⟩
          refine hK _ _ (.inr H6.out.1) ?_
          clear hK K
          have HC4 : Hid (C v4) := H6.out.1
          have HB4 : Hid (Below v3.heap.size v3 v4) := H6.out.2.1
          simp only [Act.put, List.setIfInBounds_toArray, List.set_cons_zero, List.set_cons_succ]
          have HB7 : Hid (Blk v4 (v0.heap.size) 25 zer) := HA4.out.1.below ((HB2.out.trans (HB3.out.mono HB2.out.size)).trans (HB4.out.mono (HB2.out.trans (HB3.out.mono HB2.out.size)).size)) HA4.out.2
          have HB8 : Hid (Blk v4 (v2.heap.size) 25 zer) := HA5.out.1.below HB4.out HA5.out.2
          refine one_of 1 rfl [6] (by kernel_rfl) (by simp) ?_
          intro i hi
          obtain rfl := List.mem_singleton.1 hi
          refine ⟨_, rfl, by rfl, ?_⟩
          intro K hK
          refine oper_row 25 (.tmp 7) (.tmp 29) rfl (v0.heap.size) 0 25 [] zer [] (six p.1 na5 nc5 ka5 p.2.list.length kc5) rfl rfl rfl (by simpa using HB7.out) rfl s25 (six_one _ _ _ _ _ _) ?_
          intro u1 b1 g1
          have hcu : C u1 := by
            have hs0 := HSz.out _ HC0.out
            have hs3 := HS2.out
            have q1 := HB1.out.size
            have q2 := HB2.out.size
            have q3 := HB3.out.size
            have q4 := HB4.out.size
            exact CX.out _ _ W2.heap.size HC4.out ((Below.refl _ _).grown g1 (by omega) (by intro x hx; injection hx with hx; omega)) (Nat.le_refl _)
          refine hK _ _ (.inr hcu) ?_
          clear hK K hi
          have hb8 : Blk u1 (v2.heap.size) 25 zer := by
            have ha4 := HA4.out.2
            have ha5 := HA5.out.2
            have q1 := HB1.out.size
            have q2 := HB2.out.size
            have q3 := HB3.out.size
            have q4 := HB4.out.size
            exact HB8.out.kept g1 (by intro c; injection c with c; omega)
          refine one_of 0 rfl [7] (by kernel_rfl) (by simp) ?_
          intro i hi
          obtain rfl := List.mem_singleton.1 hi
          refine ⟨_, rfl, by rfl, ?_⟩
          intro K hK
          refine oper_row 25 (.tmp 8) (.tmp 31) rfl (v2.heap.size) 0 25 [] zer [] (six y.1 na6 nc6 ka6 y.2.list.length kc6) rfl rfl rfl (by simpa using hb8) rfl s25 (six_one _ _ _ _ _ _) ?_
          intro u2 b2 g2
          refine hK _ _ (.inl rfl) ?_
          clear hK K hi
          refine anyC_done (by kernel_rfl) ⟨rfl, ?_⟩
          refine ⟨rfl, v0.heap.size, v2.heap.size, na5, nc5, ka5, kc5, na6, nc6, ka6, kc6, rfl, ?_⟩
          obtain ⟨_, _, Lp, hvp, hlp⟩ := H5.out
          obtain ⟨_, _, Ly, hvy, hly⟩ := H6.out
          have hs0 := HSz.out _ HC0.out
          have hs3 := HS2.out
          have ha4 := HA4.out.2
          have ha5 := HA5.out.2
          have q1 := HB1.out.size
          have q2 := HB2.out.size
          have q3 := HB3.out.size
          have q4 := HB4.out.size
          have gs1 := g1.size
          have b1' : Blk u1 (v0.heap.size) 25 (six p.1 na5 nc5 ka5 p.2.list.length kc5) := by simpa using b1
          have b2' : Blk u2 (v2.heap.size) 25 (six y.1 na6 nc6 ka6 y.2.list.length kc6) := by simpa using b2
          have hkp : ∀ x ∈ Lp, u2.heap[x]? = v2.heap[x]? := fun x hx => by
            have hb := hlp x hx
            rw [g2.block x (by omega) (by intro c; injection c with c; omega), g1.block x (by omega) (by intro c; injection c with c; omega), ((HB3.out.trans (HB4.out.mono HB3.out.size))).block x hb.2]
          have hky : ∀ x ∈ Ly, u2.heap[x]? = v4.heap[x]? := fun x hx => by
            have hb := hly x hx
            rw [g2.block x (by omega) (by intro c; injection c with c; omega), g1.block x (by omega) (by intro c; injection c with c; omega), ((Below.refl v4.heap.size v4)).block x hb.2]
          exact ⟨CX.out _ _ W2.heap.size hcu ((Below.refl _ _).grown g2 (by omega) (by intro x hx; injection hx with hx; omega)) (Nat.le_refl _), b1'.kept g2 (by intro c; injection c with c; omega), b2', (hvp.keep hkp).vl, (hvy.keep hky).vl⟩
      · refine ⟨_, rfl, by rfl, ?_⟩
        intro K hK
        refine oper_new rfl (fun w' => C w' ∧ Below v1.heap.size v1 w' ∧ Blk w' v1.heap.size 25 zer ∧ v1.heap.size < w'.heap.size) ⟨CB.out _ _ HC1.out ((Below.refl _ _).alloc (Nat.le_refl _) _), (Below.refl _ _).alloc (Nat.le_refl _) _, blk_new _ _ _, by simp⟩ ?_
        intro v2 H9
        refine hK _ _ (.inr H9.1) ?_
        clear hK K
        have HC2 : Hid (C v2) := H9.1
        have HB2 : Hid (Below v1.heap.size v1 v2) := H9.2.1
        have HA5 : Hid (Blk v2 v1.heap.size 25 zer ∧ v1.heap.size < v2.heap.size) := H9.2.2
        clear H9
        simp only [Act.put, List.setIfInBounds_toArray, List.set_cons_zero, List.set_cons_succ]
        refine one_of 3 rfl [1] (by kernel_rfl) (by simp) ?_
        intro i hi
        simp only [List.mem_cons, List.not_mem_nil, or_false] at hi
        subst hi
        refine ⟨_, rfl, by rfl, ?_⟩
        intro K hK
        refine oper_calls 8 #[.tmp 28] #[25] rfl #[.agg #[.int .i64 p.1.k, .int .i64 p.1.n, .int .i64 p.1.s, .string p.1.t, .slice na p.1.ns.length nc, .slice ka p.2.list.length kc]] (by rw [List.map_toArray]; rfl) enters8 _ (K1.out _ HC2.out) ?_
        rintro v v3 ⟨na5, nc5, ka5, kc5, rfl, H5⟩
        refine hK _ _ (.inr H5.out.1) ?_
        clear hK K
        have HC3 : Hid (C v3) := H5.out.1
        have HB3 : Hid (Below v2.heap.size v2 v3) := H5.out.2.1
        simp only [Act.put, List.setIfInBounds_toArray, List.set_cons_zero, List.set_cons_succ]
        refine one_of 2 rfl [3] (by kernel_rfl) (by simp) ?_
        intro i hi
        simp only [List.mem_cons, List.not_mem_nil, or_false] at hi
        subst hi
        refine ⟨_, rfl, by rfl, ?_⟩
        intro K hK
        refine oper_calls 8 #[.tmp 30] #[25] rfl #[.agg #[.int .i64 y.1.k, .int .i64 y.1.n, .int .i64 y.1.s, .string y.1.t, .slice na2 y.1.ns.length nc2, .slice ka2 y.2.list.length kc2]] (by rw [List.map_toArray]; rfl) enters8 _ (K2.out _ HC3.out) ?_
        rintro v v4 ⟨na6, nc6, ka6, kc6, rfl, H6⟩
        refine hK _ _ (.inr H6.out.1) ?_
        clear hK K
        have HC4 : Hid (C v4) := H6.out.1
        have HB4 : Hid (Below v3.heap.size v3 v4) := H6.out.2.1
        simp only [Act.put, List.setIfInBounds_toArray, List.set_cons_zero, List.set_cons_succ]
        have HB7 : Hid (Blk v4 (v0.heap.size) 25 zer) := HA4.out.1.below ((HB2.out.trans (HB3.out.mono HB2.out.size)).trans (HB4.out.mono (HB2.out.trans (HB3.out.mono HB2.out.size)).size)) HA4.out.2
        have HB8 : Hid (Blk v4 (v1.heap.size) 25 zer) := HA5.out.1.below (HB3.out.trans (HB4.out.mono HB3.out.size)) HA5.out.2
        refine one_of 1 rfl [6] (by kernel_rfl) (by simp) ?_
        intro i hi
        obtain rfl := List.mem_singleton.1 hi
        refine ⟨_, rfl, by rfl, ?_⟩
        intro K hK
        refine oper_row 25 (.tmp 7) (.tmp 29) rfl (v0.heap.size) 0 25 [] zer [] (six p.1 na5 nc5 ka5 p.2.list.length kc5) rfl rfl rfl (by simpa using HB7.out) rfl s25 (six_one _ _ _ _ _ _) ?_
        intro u1 b1 g1
        have hcu : C u1 := by
          have hs0 := HSz.out _ HC0.out
          have hs3 := HS2.out
          have q1 := HB1.out.size
          have q2 := HB2.out.size
          have q3 := HB3.out.size
          have q4 := HB4.out.size
          exact CX.out _ _ W2.heap.size HC4.out ((Below.refl _ _).grown g1 (by omega) (by intro x hx; injection hx with hx; omega)) (Nat.le_refl _)
        refine hK _ _ (.inr hcu) ?_
        clear hK K hi
        have hb8 : Blk u1 (v1.heap.size) 25 zer := by
          have ha4 := HA4.out.2
          have ha5 := HA5.out.2
          have q1 := HB1.out.size
          have q2 := HB2.out.size
          have q3 := HB3.out.size
          have q4 := HB4.out.size
          exact HB8.out.kept g1 (by intro c; injection c with c; omega)
        refine one_of 0 rfl [7] (by kernel_rfl) (by simp) ?_
        intro i hi
        obtain rfl := List.mem_singleton.1 hi
        refine ⟨_, rfl, by rfl, ?_⟩
        intro K hK
        refine oper_row 25 (.tmp 8) (.tmp 31) rfl (v1.heap.size) 0 25 [] zer [] (six y.1 na6 nc6 ka6 y.2.list.length kc6) rfl rfl rfl (by simpa using hb8) rfl s25 (six_one _ _ _ _ _ _) ?_
        intro u2 b2 g2
        refine hK _ _ (.inl rfl) ?_
        clear hK K hi
        refine anyC_done (by kernel_rfl) ⟨rfl, ?_⟩
        refine ⟨rfl, v0.heap.size, v1.heap.size, na5, nc5, ka5, kc5, na6, nc6, ka6, kc6, rfl, ?_⟩
        obtain ⟨_, _, Lp, hvp, hlp⟩ := H5.out
        obtain ⟨_, _, Ly, hvy, hly⟩ := H6.out
        have hs0 := HSz.out _ HC0.out
        have hs3 := HS2.out
        have ha4 := HA4.out.2
        have ha5 := HA5.out.2
        have q1 := HB1.out.size
        have q2 := HB2.out.size
        have q3 := HB3.out.size
        have q4 := HB4.out.size
        have gs1 := g1.size
        have b1' : Blk u1 (v0.heap.size) 25 (six p.1 na5 nc5 ka5 p.2.list.length kc5) := by simpa using b1
        have b2' : Blk u2 (v1.heap.size) 25 (six y.1 na6 nc6 ka6 y.2.list.length kc6) := by simpa using b2
        have hkp : ∀ x ∈ Lp, u2.heap[x]? = v3.heap[x]? := fun x hx => by
          have hb := hlp x hx
          rw [g2.block x (by omega) (by intro c; injection c with c; omega), g1.block x (by omega) (by intro c; injection c with c; omega), (HB4.out).block x hb.2]
        have hky : ∀ x ∈ Ly, u2.heap[x]? = v4.heap[x]? := fun x hx => by
          have hb := hly x hx
          rw [g2.block x (by omega) (by intro c; injection c with c; omega), g1.block x (by omega) (by intro c; injection c with c; omega), ((Below.refl v4.heap.size v4)).block x hb.2]
        exact ⟨CX.out _ _ W2.heap.size hcu ((Below.refl _ _).grown g2 (by omega) (by intro x hx; injection hx with hx; omega)) (Nat.le_refl _), b1'.kept g2 (by intro c; injection c with c; omega), b2', (hvp.keep hkp).vl, (hvy.keep hky).vl⟩
    · refine ⟨_, rfl, by rfl, ?_⟩
      intro K hK
      refine oper_new rfl (fun w' => C w' ∧ Below v0.heap.size v0 w' ∧ Blk w' v0.heap.size 25 zer ∧ v0.heap.size < w'.heap.size) ⟨CB.out _ _ HC0.out ((Below.refl _ _).alloc (Nat.le_refl _) _), (Below.refl _ _).alloc (Nat.le_refl _) _, blk_new _ _ _, by simp⟩ ?_
      intro v1 H9
      refine hK _ _ (.inr H9.1) ?_
      clear hK K
      have HC1 : Hid (C v1) := H9.1
      have HB1 : Hid (Below v0.heap.size v0 v1) := H9.2.1
      have HA5 : Hid (Blk v1 v0.heap.size 25 zer ∧ v0.heap.size < v1.heap.size) := H9.2.2
      clear H9
      simp only [Act.put, List.setIfInBounds_toArray, List.set_cons_zero, List.set_cons_succ]
      refine one_of 4 rfl [1, 4] (by kernel_rfl) (by simp) ?_
      intro i hi
      simp only [List.mem_cons, List.not_mem_nil, or_false] at hi
      rcases hi with rfl | rfl
      · refine ⟨_, rfl, by rfl, ?_⟩
        intro K hK
        refine oper_calls 8 #[.tmp 28] #[25] rfl #[.agg #[.int .i64 p.1.k, .int .i64 p.1.n, .int .i64 p.1.s, .string p.1.t, .slice na p.1.ns.length nc, .slice ka p.2.list.length kc]] (by rw [List.map_toArray]; rfl) enters8 _ (K1.out _ HC1.out) ?_
        rintro v v2 ⟨na5, nc5, ka5, kc5, rfl, H5⟩
        refine hK _ _ (.inr H5.out.1) ?_
        clear hK K
        have HC2 : Hid (C v2) := H5.out.1
        have HB2 : Hid (Below v1.heap.size v1 v2) := H5.out.2.1
        simp only [Act.put, List.setIfInBounds_toArray, List.set_cons_zero, List.set_cons_succ]
        refine one_of 3 rfl [3, 4] (by kernel_rfl) (by simp) ?_
        intro i hi
        simp only [List.mem_cons, List.not_mem_nil, or_false] at hi
        rcases hi with rfl | rfl
        · refine ⟨_, rfl, by rfl, ?_⟩
          intro K hK
          refine oper_calls 8 #[.tmp 30] #[25] rfl #[.agg #[.int .i64 y.1.k, .int .i64 y.1.n, .int .i64 y.1.s, .string y.1.t, .slice na2 y.1.ns.length nc2, .slice ka2 y.2.list.length kc2]] (by rw [List.map_toArray]; rfl) enters8 _ (K2.out _ HC2.out) ?_
          rintro v v3 ⟨na6, nc6, ka6, kc6, rfl, H6⟩
          refine hK _ _ (.inr H6.out.1) ?_
          clear hK K
          have HC3 : Hid (C v3) := H6.out.1
          have HB3 : Hid (Below v2.heap.size v2 v3) := H6.out.2.1
          simp only [Act.put, List.setIfInBounds_toArray, List.set_cons_zero, List.set_cons_succ]
          refine one_of 2 rfl [4] (by kernel_rfl) (by simp) ?_
          intro i hi
          simp only [List.mem_cons, List.not_mem_nil, or_false] at hi
          subst hi
          refine ⟨_, rfl, by rfl, ?_⟩
          intro K hK
          refine oper_new rfl (fun w' => C w' ∧ Below v3.heap.size v3 w' ∧ Blk w' v3.heap.size 25 zer ∧ v3.heap.size < w'.heap.size) ⟨CB.out _ _ HC3.out ((Below.refl _ _).alloc (Nat.le_refl _) _), (Below.refl _ _).alloc (Nat.le_refl _) _, blk_new _ _ _, by simp⟩ ?_
          intro v4 H9
          refine hK _ _ (.inr H9.1) ?_
          clear hK K
          have HC4 : Hid (C v4) := H9.1
          have HB4 : Hid (Below v3.heap.size v3 v4) := H9.2.1
          have HA4 : Hid (Blk v4 v3.heap.size 25 zer ∧ v3.heap.size < v4.heap.size) := H9.2.2
          clear H9
          simp only [Act.put, List.setIfInBounds_toArray, List.set_cons_zero, List.set_cons_succ]
          have HB7 : Hid (Blk v4 (v3.heap.size) 25 zer) := HA4.out.1.below (Below.refl v4.heap.size v4) HA4.out.2
          have HB8 : Hid (Blk v4 (v0.heap.size) 25 zer) := HA5.out.1.below ((HB2.out.trans (HB3.out.mono HB2.out.size)).trans (HB4.out.mono (HB2.out.trans (HB3.out.mono HB2.out.size)).size)) HA5.out.2
          refine one_of 1 rfl [6] (by kernel_rfl) (by simp) ?_
          intro i hi
          obtain rfl := List.mem_singleton.1 hi
          refine ⟨_, rfl, by rfl, ?_⟩
          intro K hK
          refine oper_row 25 (.tmp 7) (.tmp 29) rfl (v3.heap.size) 0 25 [] zer [] (six p.1 na5 nc5 ka5 p.2.list.length kc5) rfl rfl rfl (by simpa using HB7.out) rfl s25 (six_one _ _ _ _ _ _) ?_
          intro u1 b1 g1
          have hcu : C u1 := by
            have hs0 := HSz.out _ HC0.out
            have hs3 := HS2.out
            have q1 := HB1.out.size
            have q2 := HB2.out.size
            have q3 := HB3.out.size
            have q4 := HB4.out.size
            exact CX.out _ _ W2.heap.size HC4.out ((Below.refl _ _).grown g1 (by omega) (by intro x hx; injection hx with hx; omega)) (Nat.le_refl _)
          refine hK _ _ (.inr hcu) ?_
          clear hK K hi
          have hb8 : Blk u1 (v0.heap.size) 25 zer := by
            have ha4 := HA4.out.2
            have ha5 := HA5.out.2
            have q1 := HB1.out.size
            have q2 := HB2.out.size
            have q3 := HB3.out.size
            have q4 := HB4.out.size
            exact HB8.out.kept g1 (by intro c; injection c with c; omega)
          refine one_of 0 rfl [7] (by kernel_rfl) (by simp) ?_
          intro i hi
          obtain rfl := List.mem_singleton.1 hi
          refine ⟨_, rfl, by rfl, ?_⟩
          intro K hK
          refine oper_row 25 (.tmp 8) (.tmp 31) rfl (v0.heap.size) 0 25 [] zer [] (six y.1 na6 nc6 ka6 y.2.list.length kc6) rfl rfl rfl (by simpa using hb8) rfl s25 (six_one _ _ _ _ _ _) ?_
          intro u2 b2 g2
          refine hK _ _ (.inl rfl) ?_
          clear hK K hi
          refine anyC_done (by kernel_rfl) ⟨rfl, ?_⟩
          refine ⟨rfl, v3.heap.size, v0.heap.size, na5, nc5, ka5, kc5, na6, nc6, ka6, kc6, rfl, ?_⟩
          obtain ⟨_, _, Lp, hvp, hlp⟩ := H5.out
          obtain ⟨_, _, Ly, hvy, hly⟩ := H6.out
          have hs0 := HSz.out _ HC0.out
          have hs3 := HS2.out
          have ha4 := HA4.out.2
          have ha5 := HA5.out.2
          have q1 := HB1.out.size
          have q2 := HB2.out.size
          have q3 := HB3.out.size
          have q4 := HB4.out.size
          have gs1 := g1.size
          have b1' : Blk u1 (v3.heap.size) 25 (six p.1 na5 nc5 ka5 p.2.list.length kc5) := by simpa using b1
          have b2' : Blk u2 (v0.heap.size) 25 (six y.1 na6 nc6 ka6 y.2.list.length kc6) := by simpa using b2
          have hkp : ∀ x ∈ Lp, u2.heap[x]? = v2.heap[x]? := fun x hx => by
            have hb := hlp x hx
            rw [g2.block x (by omega) (by intro c; injection c with c; omega), g1.block x (by omega) (by intro c; injection c with c; omega), ((HB3.out.trans (HB4.out.mono HB3.out.size))).block x hb.2]
          have hky : ∀ x ∈ Ly, u2.heap[x]? = v3.heap[x]? := fun x hx => by
            have hb := hly x hx
            rw [g2.block x (by omega) (by intro c; injection c with c; omega), g1.block x (by omega) (by intro c; injection c with c; omega), (HB4.out).block x hb.2]
          exact ⟨CX.out _ _ W2.heap.size hcu ((Below.refl _ _).grown g2 (by omega) (by intro x hx; injection hx with hx; omega)) (Nat.le_refl _), b1'.kept g2 (by intro c; injection c with c; omega), b2', (hvp.keep hkp).vl, (hvy.keep hky).vl⟩
        · refine ⟨_, rfl, by rfl, ?_⟩
          intro K hK
          refine oper_new rfl (fun w' => C w' ∧ Below v2.heap.size v2 w' ∧ Blk w' v2.heap.size 25 zer ∧ v2.heap.size < w'.heap.size) ⟨CB.out _ _ HC2.out ((Below.refl _ _).alloc (Nat.le_refl _) _), (Below.refl _ _).alloc (Nat.le_refl _) _, blk_new _ _ _, by simp⟩ ?_
          intro v3 H9
          refine hK _ _ (.inr H9.1) ?_
          clear hK K
          have HC3 : Hid (C v3) := H9.1
          have HB3 : Hid (Below v2.heap.size v2 v3) := H9.2.1
          have HA4 : Hid (Blk v3 v2.heap.size 25 zer ∧ v2.heap.size < v3.heap.size) := H9.2.2
          clear H9
          simp only [Act.put, List.setIfInBounds_toArray, List.set_cons_zero, List.set_cons_succ]
          refine one_of 2 rfl [3] (by kernel_rfl) (by simp) ?_
          intro i hi
          simp only [List.mem_cons, List.not_mem_nil, or_false] at hi
          subst hi
          refine ⟨_, rfl, by rfl, ?_⟩
          intro K hK
          refine oper_calls 8 #[.tmp 30] #[25] rfl #[.agg #[.int .i64 y.1.k, .int .i64 y.1.n, .int .i64 y.1.s, .string y.1.t, .slice na2 y.1.ns.length nc2, .slice ka2 y.2.list.length kc2]] (by rw [List.map_toArray]; rfl) enters8 _ (K2.out _ HC3.out) ?_
          rintro v v4 ⟨na6, nc6, ka6, kc6, rfl, H6⟩
          refine hK _ _ (.inr H6.out.1) ?_
          clear hK K
          have HC4 : Hid (C v4) := H6.out.1
          have HB4 : Hid (Below v3.heap.size v3 v4) := H6.out.2.1
          simp only [Act.put, List.setIfInBounds_toArray, List.set_cons_zero, List.set_cons_succ]
          have HB7 : Hid (Blk v4 (v2.heap.size) 25 zer) := HA4.out.1.below HB4.out HA4.out.2
          have HB8 : Hid (Blk v4 (v0.heap.size) 25 zer) := HA5.out.1.below ((HB2.out.trans (HB3.out.mono HB2.out.size)).trans (HB4.out.mono (HB2.out.trans (HB3.out.mono HB2.out.size)).size)) HA5.out.2
          refine one_of 1 rfl [6] (by kernel_rfl) (by simp) ?_
          intro i hi
          obtain rfl := List.mem_singleton.1 hi
          refine ⟨_, rfl, by rfl, ?_⟩
          intro K hK
          refine oper_row 25 (.tmp 7) (.tmp 29) rfl (v2.heap.size) 0 25 [] zer [] (six p.1 na5 nc5 ka5 p.2.list.length kc5) rfl rfl rfl (by simpa using HB7.out) rfl s25 (six_one _ _ _ _ _ _) ?_
          intro u1 b1 g1
          have hcu : C u1 := by
            have hs0 := HSz.out _ HC0.out
            have hs3 := HS2.out
            have q1 := HB1.out.size
            have q2 := HB2.out.size
            have q3 := HB3.out.size
            have q4 := HB4.out.size
            exact CX.out _ _ W2.heap.size HC4.out ((Below.refl _ _).grown g1 (by omega) (by intro x hx; injection hx with hx; omega)) (Nat.le_refl _)
          refine hK _ _ (.inr hcu) ?_
          clear hK K hi
          have hb8 : Blk u1 (v0.heap.size) 25 zer := by
            have ha4 := HA4.out.2
            have ha5 := HA5.out.2
            have q1 := HB1.out.size
            have q2 := HB2.out.size
            have q3 := HB3.out.size
            have q4 := HB4.out.size
            exact HB8.out.kept g1 (by intro c; injection c with c; omega)
          refine one_of 0 rfl [7] (by kernel_rfl) (by simp) ?_
          intro i hi
          obtain rfl := List.mem_singleton.1 hi
          refine ⟨_, rfl, by rfl, ?_⟩
          intro K hK
          refine oper_row 25 (.tmp 8) (.tmp 31) rfl (v0.heap.size) 0 25 [] zer [] (six y.1 na6 nc6 ka6 y.2.list.length kc6) rfl rfl rfl (by simpa using hb8) rfl s25 (six_one _ _ _ _ _ _) ?_
          intro u2 b2 g2
          refine hK _ _ (.inl rfl) ?_
          clear hK K hi
          refine anyC_done (by kernel_rfl) ⟨rfl, ?_⟩
          refine ⟨rfl, v2.heap.size, v0.heap.size, na5, nc5, ka5, kc5, na6, nc6, ka6, kc6, rfl, ?_⟩
          obtain ⟨_, _, Lp, hvp, hlp⟩ := H5.out
          obtain ⟨_, _, Ly, hvy, hly⟩ := H6.out
          have hs0 := HSz.out _ HC0.out
          have hs3 := HS2.out
          have ha4 := HA4.out.2
          have ha5 := HA5.out.2
          have q1 := HB1.out.size
          have q2 := HB2.out.size
          have q3 := HB3.out.size
          have q4 := HB4.out.size
          have gs1 := g1.size
          have b1' : Blk u1 (v2.heap.size) 25 (six p.1 na5 nc5 ka5 p.2.list.length kc5) := by simpa using b1
          have b2' : Blk u2 (v0.heap.size) 25 (six y.1 na6 nc6 ka6 y.2.list.length kc6) := by simpa using b2
          have hkp : ∀ x ∈ Lp, u2.heap[x]? = v2.heap[x]? := fun x hx => by
            have hb := hlp x hx
            rw [g2.block x (by omega) (by intro c; injection c with c; omega), g1.block x (by omega) (by intro c; injection c with c; omega), ((HB3.out.trans (HB4.out.mono HB3.out.size))).block x hb.2]
          have hky : ∀ x ∈ Ly, u2.heap[x]? = v4.heap[x]? := fun x hx => by
            have hb := hly x hx
            rw [g2.block x (by omega) (by intro c; injection c with c; omega), g1.block x (by omega) (by intro c; injection c with c; omega), ((Below.refl v4.heap.size v4)).block x hb.2]
          exact ⟨CX.out _ _ W2.heap.size hcu ((Below.refl _ _).grown g2 (by omega) (by intro x hx; injection hx with hx; omega)) (Nat.le_refl _), b1'.kept g2 (by intro c; injection c with c; omega), b2', (hvp.keep hkp).vl, (hvy.keep hky).vl⟩
      · refine ⟨_, rfl, by rfl, ?_⟩
        intro K hK
        refine oper_new rfl (fun w' => C w' ∧ Below v1.heap.size v1 w' ∧ Blk w' v1.heap.size 25 zer ∧ v1.heap.size < w'.heap.size) ⟨CB.out _ _ HC1.out ((Below.refl _ _).alloc (Nat.le_refl _) _), (Below.refl _ _).alloc (Nat.le_refl _) _, blk_new _ _ _, by simp⟩ ?_
        intro v2 H9
        refine hK _ _ (.inr H9.1) ?_
        clear hK K
        have HC2 : Hid (C v2) := H9.1
        have HB2 : Hid (Below v1.heap.size v1 v2) := H9.2.1
        have HA4 : Hid (Blk v2 v1.heap.size 25 zer ∧ v1.heap.size < v2.heap.size) := H9.2.2
        clear H9
        simp only [Act.put, List.setIfInBounds_toArray, List.set_cons_zero, List.set_cons_succ]
        refine one_of 3 rfl [1] (by kernel_rfl) (by simp) ?_
        intro i hi
        simp only [List.mem_cons, List.not_mem_nil, or_false] at hi
        subst hi
        refine ⟨_, rfl, by rfl, ?_⟩
        intro K hK
        refine oper_calls 8 #[.tmp 28] #[25] rfl #[.agg #[.int .i64 p.1.k, .int .i64 p.1.n, .int .i64 p.1.s, .string p.1.t, .slice na p.1.ns.length nc, .slice ka p.2.list.length kc]] (by rw [List.map_toArray]; rfl) enters8 _ (K1.out _ HC2.out) ?_
        rintro v v3 ⟨na5, nc5, ka5, kc5, rfl, H5⟩
        refine hK _ _ (.inr H5.out.1) ?_
        clear hK K
        have HC3 : Hid (C v3) := H5.out.1
        have HB3 : Hid (Below v2.heap.size v2 v3) := H5.out.2.1
        simp only [Act.put, List.setIfInBounds_toArray, List.set_cons_zero, List.set_cons_succ]
        refine one_of 2 rfl [3] (by kernel_rfl) (by simp) ?_
        intro i hi
        simp only [List.mem_cons, List.not_mem_nil, or_false] at hi
        subst hi
        refine ⟨_, rfl, by rfl, ?_⟩
        intro K hK
        refine oper_calls 8 #[.tmp 30] #[25] rfl #[.agg #[.int .i64 y.1.k, .int .i64 y.1.n, .int .i64 y.1.s, .string y.1.t, .slice na2 y.1.ns.length nc2, .slice ka2 y.2.list.length kc2]] (by rw [List.map_toArray]; rfl) enters8 _ (K2.out _ HC3.out) ?_
        rintro v v4 ⟨na6, nc6, ka6, kc6, rfl, H6⟩
        refine hK _ _ (.inr H6.out.1) ?_
        clear hK K
        have HC4 : Hid (C v4) := H6.out.1
        have HB4 : Hid (Below v3.heap.size v3 v4) := H6.out.2.1
        simp only [Act.put, List.setIfInBounds_toArray, List.set_cons_zero, List.set_cons_succ]
        have HB7 : Hid (Blk v4 (v1.heap.size) 25 zer) := HA4.out.1.below (HB3.out.trans (HB4.out.mono HB3.out.size)) HA4.out.2
        have HB8 : Hid (Blk v4 (v0.heap.size) 25 zer) := HA5.out.1.below ((HB2.out.trans (HB3.out.mono HB2.out.size)).trans (HB4.out.mono (HB2.out.trans (HB3.out.mono HB2.out.size)).size)) HA5.out.2
        refine one_of 1 rfl [6] (by kernel_rfl) (by simp) ?_
        intro i hi
        obtain rfl := List.mem_singleton.1 hi
        refine ⟨_, rfl, by rfl, ?_⟩
        intro K hK
        refine oper_row 25 (.tmp 7) (.tmp 29) rfl (v1.heap.size) 0 25 [] zer [] (six p.1 na5 nc5 ka5 p.2.list.length kc5) rfl rfl rfl (by simpa using HB7.out) rfl s25 (six_one _ _ _ _ _ _) ?_
        intro u1 b1 g1
        have hcu : C u1 := by
          have hs0 := HSz.out _ HC0.out
          have hs3 := HS2.out
          have q1 := HB1.out.size
          have q2 := HB2.out.size
          have q3 := HB3.out.size
          have q4 := HB4.out.size
          exact CX.out _ _ W2.heap.size HC4.out ((Below.refl _ _).grown g1 (by omega) (by intro x hx; injection hx with hx; omega)) (Nat.le_refl _)
        refine hK _ _ (.inr hcu) ?_
        clear hK K hi
        have hb8 : Blk u1 (v0.heap.size) 25 zer := by
          have ha4 := HA4.out.2
          have ha5 := HA5.out.2
          have q1 := HB1.out.size
          have q2 := HB2.out.size
          have q3 := HB3.out.size
          have q4 := HB4.out.size
          exact HB8.out.kept g1 (by intro c; injection c with c; omega)
        refine one_of 0 rfl [7] (by kernel_rfl) (by simp) ?_
        intro i hi
        obtain rfl := List.mem_singleton.1 hi
        refine ⟨_, rfl, by rfl, ?_⟩
        intro K hK
        refine oper_row 25 (.tmp 8) (.tmp 31) rfl (v0.heap.size) 0 25 [] zer [] (six y.1 na6 nc6 ka6 y.2.list.length kc6) rfl rfl rfl (by simpa using hb8) rfl s25 (six_one _ _ _ _ _ _) ?_
        intro u2 b2 g2
        refine hK _ _ (.inl rfl) ?_
        clear hK K hi
        refine anyC_done (by kernel_rfl) ⟨rfl, ?_⟩
        refine ⟨rfl, v1.heap.size, v0.heap.size, na5, nc5, ka5, kc5, na6, nc6, ka6, kc6, rfl, ?_⟩
        obtain ⟨_, _, Lp, hvp, hlp⟩ := H5.out
        obtain ⟨_, _, Ly, hvy, hly⟩ := H6.out
        have hs0 := HSz.out _ HC0.out
        have hs3 := HS2.out
        have ha4 := HA4.out.2
        have ha5 := HA5.out.2
        have q1 := HB1.out.size
        have q2 := HB2.out.size
        have q3 := HB3.out.size
        have q4 := HB4.out.size
        have gs1 := g1.size
        have b1' : Blk u1 (v1.heap.size) 25 (six p.1 na5 nc5 ka5 p.2.list.length kc5) := by simpa using b1
        have b2' : Blk u2 (v0.heap.size) 25 (six y.1 na6 nc6 ka6 y.2.list.length kc6) := by simpa using b2
        have hkp : ∀ x ∈ Lp, u2.heap[x]? = v3.heap[x]? := fun x hx => by
          have hb := hlp x hx
          rw [g2.block x (by omega) (by intro c; injection c with c; omega), g1.block x (by omega) (by intro c; injection c with c; omega), (HB4.out).block x hb.2]
        have hky : ∀ x ∈ Ly, u2.heap[x]? = v4.heap[x]? := fun x hx => by
          have hb := hly x hx
          rw [g2.block x (by omega) (by intro c; injection c with c; omega), g1.block x (by omega) (by intro c; injection c with c; omega), ((Below.refl v4.heap.size v4)).block x hb.2]
        exact ⟨CX.out _ _ W2.heap.size hcu ((Below.refl _ _).grown g2 (by omega) (by intro x hx; injection hx with hx; omega)) (Nat.le_refl _), b1'.kept g2 (by intro c; injection c with c; omega), b2', (hvp.keep hkp).vl, (hvy.keep hky).vl⟩
  rintro e a u ⟨rfl, B7, B8, na5, nc5, ka5, kc5, na6, nc6, ka6, kc6, rfl, HU⟩
  have hCu : C u := HU.out.1
  obtain ⟨E, hE⟩ : ∃ E : World → Prop, E = fun W' => Below u.heap.size u W' := ⟨_, rfl⟩
  have HEu : Hid (E u) := by rw [hE]; exact Below.refl _ _
  have EB : Hid (∀ W W', E W → Below W.heap.size W W' → E W') := fun W W' h hb => by rw [hE] at h ⊢; exact h.trans (hb.mono h.size)
  have EX : Hid (∀ W W', E W → Below u.heap.size W W' → E W') := fun W W' h hb => by rw [hE] at h ⊢; exact h.trans hb
  have EC : Hid (∀ W', E W' → C W') := fun W' h => by rw [hE] at h; exact CB.out _ _ hCu h
  have EU : Hid (∀ W', E W' → u.heap.size ≤ W'.heap.size) := fun W' h => by rw [hE] at h; exact h.size
  have E1 : Hid (∀ W', E W' → Blk W' W.heap.size 25 (six p.1 na nc ka p.2.list.length kc)) := fun W' h => C1.out _ (EC.out _ h)
  have E2 : Hid (∀ W', E W' → Blk W' (W.heap.size + 1) 25 (six y.1 na2 nc2 ka2 y.2.list.length kc2)) := fun W' h => C2.out _ (EC.out _ h)
  have E7 : Hid (∀ W', E W' → Blk W' B7 25 (six p.1 na5 nc5 ka5 p.2.list.length kc5)) := fun W' h => by rw [hE] at h; exact HU.out.2.1.below h HU.out.2.1.lt
  have E8 : Hid (∀ W', E W' → Blk W' B8 25 (six y.1 na6 nc6 ka6 y.2.list.length kc6)) := fun W' h => by rw [hE] at h; exact HU.out.2.2.1.below h HU.out.2.2.1.lt
  have VP : Hid (∀ W', E W' → Vl W' p na nc ka kc) := fun W' h => CV.out _ (EC.out _ h)
  have VY : Hid (∀ W', E W' → Vl W' y na2 nc2 ka2 kc2) := fun W' h => CY.out _ (EC.out _ h)
  have VP5 : Hid (∀ W', E W' → Vl W' p na5 nc5 ka5 kc5) := fun W' h => by rw [hE] at h; exact HU.out.2.2.2.1.below h
  have VY6 : Hid (∀ W', E W' → Vl W' y na6 nc6 ka6 kc6) := fun W' h => by rw [hE] at h; exact HU.out.2.2.2.2.below h
  have EF : Hid (∀ W', E W' → Below W.heap.size W W') := fun W' h => CE.out _ (EC.out _ h)
  obtain ⟨rv, hrv⟩ : ∃ rv, wthV p name y = rv := ⟨_, rfl⟩
  obtain ⟨ee, hee⟩ : ∃ ee, wthE p name y = ee := ⟨_, rfl⟩
  have hln : p.1.ns.length ≤ 2500 := by have := HWs.out.1; simp only [ws, wsH] at this; omega
  have hlk : p.2.list.length ≤ 2500 := by have := HWs.out.1; have := len_ws p.2; simp only [ws] at *; omega
  have HWr : Hid (WfV rv) := by rw [← hrv]; exact wth_wf HWp.out HWy.out HNm.out (by omega) (by omega)
  have HWx : Hid (ws rv ≤ 100000) := by rw [← hrv]; exact wth_ws HWs.out.1 HWs.out.2
  have HOk : Hid (ee = 0 → chkV rv 1 = 0 ∧ hasF rv name = true ∧ fldV rv name = y) := fun h => by rw [← hrv]; exact wth_field (by rw [hee]; exact h)
  have kW : Hid (∀ W', E W' → Calls Try.prog 21 #[.agg #[.int .i64 p.1.k, .int .i64 p.1.n, .int .i64 p.1.s, .string p.1.t, .slice na5 p.1.ns.length nc5, .slice ka5 p.2.list.length kc5], .string name, .agg #[.int .i64 y.1.k, .int .i64 y.1.n, .int .i64 y.1.s, .string y.1.t, .slice na6 y.1.ns.length nc6, .slice ka6 y.2.list.length kc6]] W' fun e w' => ∃ na9 nc9 ka9 kc9, e = .returned (.tuple #[.agg #[.int .i64 rv.1.k, .int .i64 rv.1.n, .int .i64 rv.1.s, .string rv.1.t, .slice na9 rv.1.ns.length nc9, .slice ka9 rv.2.list.length kc9], .int .i64 ee]) ∧ Hid ((∃ L, VlL w' rv na9 nc9 ka9 kc9 L ∧ (∀ x ∈ L, W'.heap.size ≤ x ∧ x < w'.heap.size) ∧ L.Nodup) ∧ E w')) := fun W' h => by
    have hh := vWith p y name HWp.out HWy.out HWs.out.1 HWs.out.2 HNm.out na5 nc5 ka5 kc5 na6 nc6 ka6 kc6 W' (VP5.out _ h) (VY6.out _ h)
    rw [hrv, hee] at hh
    refine hh.mono fun e w' ⟨a, b, c, d, he, hx⟩ => ?_
    obtain ⟨L, y1, y2, y3, y4⟩ := hx.out
    exact ⟨a, b, c, d, he, ⟨L, y1, y2, y3⟩, EB.out _ _ h y4⟩
  have kR : Hid (∀ W', E W' → Calls Try.prog 22 #[.agg #[.int .i64 p.1.k, .int .i64 p.1.n, .int .i64 p.1.s, .string p.1.t, .slice na p.1.ns.length nc, .slice ka p.2.list.length kc], .string name, .agg #[.int .i64 y.1.k, .int .i64 y.1.n, .int .i64 y.1.s, .string y.1.t, .slice na2 y.1.ns.length nc2, .slice ka2 y.2.list.length kc2]] W' fun e w' => ∃ na10 nc10 ka10 kc10, e = .returned (.tuple #[.agg #[.int .i64 rv.1.k, .int .i64 rv.1.n, .int .i64 rv.1.s, .string rv.1.t, .slice na10 rv.1.ns.length nc10, .slice ka10 rv.2.list.length kc10], .int .i64 ee]) ∧ Hid (Vl w' rv na10 nc10 ka10 kc10 ∧ E w' ∧ Below W'.heap.size W' w')) := fun W' h => by
    have hh := rWith p y name HWp.out HWy.out HWs.out.1 HWs.out.2 HNm.out na nc ka kc na2 nc2 ka2 kc2 W' (VP.out _ h) (VY.out _ h)
    rw [hrv, hee] at hh
    exact hh.mono fun e w' ⟨a, b, c, d, he, hx⟩ => ⟨a, b, c, d, he, hx.out.1, EB.out _ _ h hx.out.2, hx.out.2⟩
  have kQp : Hid (∀ W', E W' → Calls Try.prog 13 #[.agg #[.int .i64 p.1.k, .int .i64 p.1.n, .int .i64 p.1.s, .string p.1.t, .slice na5 p.1.ns.length nc5, .slice ka5 p.2.list.length kc5], .agg #[.int .i64 p.1.k, .int .i64 p.1.n, .int .i64 p.1.s, .string p.1.t, .slice na p.1.ns.length nc, .slice ka p.2.list.length kc]] W' fun e w' => e = .returned (.bool true) ∧ E w') := fun W' h => (equal_any _ p (Nat.le_refl _) HWp.out p HWp.out na5 nc5 ka5 kc5 na nc ka kc W' (VP5.out _ h) (VP.out _ h)).mono fun e w' ⟨t, he, hb⟩ => ⟨by rw [he, hb.out.1.2 rfl], EB.out _ _ h hb.out.2⟩
  have kQy : Hid (∀ W', E W' → Calls Try.prog 13 #[.agg #[.int .i64 y.1.k, .int .i64 y.1.n, .int .i64 y.1.s, .string y.1.t, .slice na6 y.1.ns.length nc6, .slice ka6 y.2.list.length kc6], .agg #[.int .i64 y.1.k, .int .i64 y.1.n, .int .i64 y.1.s, .string y.1.t, .slice na2 y.1.ns.length nc2, .slice ka2 y.2.list.length kc2]] W' fun e w' => e = .returned (.bool true) ∧ E w') := fun W' h => (equal_any _ y (Nat.le_refl _) HWy.out y HWy.out na6 nc6 ka6 kc6 na2 nc2 ka2 kc2 W' (VY6.out _ h) (VY.out _ h)).mono fun e w' ⟨t, he, hb⟩ => ⟨by rw [he, hb.out.1.2 rfl], EB.out _ _ h hb.out.2⟩
  have kN : Hid (∀ W', E W' → Calls Try.prog 14 #[] W' fun e w' => e = .returned (.bool true) ∧ E w') := fun W' h => (known_any W').mono fun e w' ⟨he, hb⟩ => ⟨he, EB.out _ _ h hb⟩
  have hkr : rv.2.list.length ≤ 140737488355328 := HWr.out.2.1
  clear hE hCu hrv hee HU K1 K2 HCw N1 N2 C1 C2 CV CY CX CD HB1 HB2 HS2 HSz hln hlk CB CE EC
  by_cases hp : chkV p 1 = 0
  case neg =>
    obtain ⟨X, hX⟩ : ∃ X, chkV p 1 = X := ⟨_, rfl⟩
    have kC : Hid (∀ W', E W' → Calls Try.prog 12 #[.agg #[.int .i64 p.1.k, .int .i64 p.1.n, .int .i64 p.1.s, .string p.1.t, .slice na p.1.ns.length nc, .slice ka p.2.list.length kc]] W' fun e w' => e = .returned (.int .i64 X) ∧ E w') := fun W' h => (rCheck_any p HWp.out na nc ka kc W' (VP.out _ h)).mono fun e w' ⟨he, hb⟩ => ⟨by rw [he, hX], EB.out _ _ h hb⟩
    rw [hX] at hp
    clear hX
    have d0 : u.cell? ⟨W.heap.size, 0, none⟩ = some (.int .i64 p.1.k) := (E1.out _ HEu.out).cell 0
    have d1 : u.cell? ⟨W.heap.size, 1, none⟩ = some (.int .i64 p.1.n) := (E1.out _ HEu.out).cell 1
    have d2 : u.cell? ⟨W.heap.size, 2, none⟩ = some (.int .i64 p.1.s) := (E1.out _ HEu.out).cell 2
    have d3 : u.cell? ⟨W.heap.size, 3, none⟩ = some (.string p.1.t) := (E1.out _ HEu.out).cell 3
    have d4 : u.cell? ⟨W.heap.size, 4, none⟩ = some (.slice na p.1.ns.length nc) := (E1.out _ HEu.out).cell 4
    have d5 : u.cell? ⟨W.heap.size, 5, none⟩ = some (.slice ka p.2.list.length kc) := (E1.out _ HEu.out).cell 5
    go_wp2_with fail
    refine (kC.out _ HEu.out).mono ?_
    rintro e u1 ⟨rfl, hC7⟩
    have HEu1 : Hid (E u1) := hC7
    clear hC7
    clear d0 d1 d2 d3 d4 d5
    have HE0 : Hid (E u1) := HEu1.out
    have d0 : u1.cell? ⟨B7, 0, none⟩ = some (.int .i64 p.1.k) := (E7.out _ HEu1.out).cell 0
    have d1 : u1.cell? ⟨B7, 1, none⟩ = some (.int .i64 p.1.n) := (E7.out _ HEu1.out).cell 1
    have d2 : u1.cell? ⟨B7, 2, none⟩ = some (.int .i64 p.1.s) := (E7.out _ HEu1.out).cell 2
    have d3 : u1.cell? ⟨B7, 3, none⟩ = some (.string p.1.t) := (E7.out _ HEu1.out).cell 3
    have d4 : u1.cell? ⟨B7, 4, none⟩ = some (.slice na5 p.1.ns.length nc5) := (E7.out _ HEu1.out).cell 4
    have d5 : u1.cell? ⟨B7, 5, none⟩ = some (.slice ka5 p.2.list.length kc5) := (E7.out _ HEu1.out).cell 5
    have f0 : u1.cell? ⟨B8, 0, none⟩ = some (.int .i64 y.1.k) := (E8.out _ HEu1.out).cell 0
    have f1 : u1.cell? ⟨B8, 1, none⟩ = some (.int .i64 y.1.n) := (E8.out _ HEu1.out).cell 1
    have f2 : u1.cell? ⟨B8, 2, none⟩ = some (.int .i64 y.1.s) := (E8.out _ HEu1.out).cell 2
    have f3 : u1.cell? ⟨B8, 3, none⟩ = some (.string y.1.t) := (E8.out _ HEu1.out).cell 3
    have f4 : u1.cell? ⟨B8, 4, none⟩ = some (.slice na6 y.1.ns.length nc6) := (E8.out _ HEu1.out).cell 4
    have f5 : u1.cell? ⟨B8, 5, none⟩ = some (.slice ka6 y.2.list.length kc6) := (E8.out _ HEu1.out).cell 5
    go_wp2_with fail
    refine (kW.out _ HEu1.out).mono ?_
    clear d0 d1 d2 d3 d4 d5 f0 f1 f2 f3 f4 f5
    rintro e x1 ⟨na9, nc9, ka9, kc9, rfl, H9⟩
    obtain ⟨L, hL1, hL2, hL3⟩ := H9.out.1
    have HL9 : Hid (VlL x1 rv na9 nc9 ka9 kc9 L ∧ (∀ x ∈ L, u1.heap.size ≤ x ∧ x < x1.heap.size) ∧ L.Nodup) := ⟨hL1, hL2, hL3⟩
    have HEx1 : Hid (E x1) := H9.out.2
    clear H9 hL1 hL2 hL3
    obtain ⟨x2, HD2⟩ : ∃ x2, Hid (x1.alloc (.cells #[.int .i64 rv.1.k, .int .i64 rv.1.n, .int .i64 rv.1.s, .string rv.1.t, .slice na9 rv.1.ns.length nc9, .slice ka9 rv.2.list.length kc9] 25) = x2) := ⟨_, rfl⟩
    have q12 : Below x1.heap.size x1 x2 := by rw [← HD2.out]; exact (Below.refl _ _).alloc (Nat.le_refl _) _
    have HEx2 : Hid (E x2) := EB.out _ _ HEx1.out q12
    have HB13 : Hid (Blk x2 x1.heap.size 25 (six rv.1 na9 nc9 ka9 rv.2.list.length kc9)) := by rw [← HD2.out]; exact blk_new x1 25 (six rv.1 na9 nc9 ka9 rv.2.list.length kc9)
    have e1 := E1.out _ HEx2.out
    have e2 := E2.out _ HEx2.out
    rw [← HD2.out] at e1 e2
    have d0 : (x1.alloc (.cells #[.int .i64 rv.1.k, .int .i64 rv.1.n, .int .i64 rv.1.s, .string rv.1.t, .slice na9 rv.1.ns.length nc9, .slice ka9 rv.2.list.length kc9] 25)).cell? ⟨W.heap.size, 0, none⟩ = some (.int .i64 p.1.k) := (e1).cell 0
    have d1 : (x1.alloc (.cells #[.int .i64 rv.1.k, .int .i64 rv.1.n, .int .i64 rv.1.s, .string rv.1.t, .slice na9 rv.1.ns.length nc9, .slice ka9 rv.2.list.length kc9] 25)).cell? ⟨W.heap.size, 1, none⟩ = some (.int .i64 p.1.n) := (e1).cell 1
    have d2 : (x1.alloc (.cells #[.int .i64 rv.1.k, .int .i64 rv.1.n, .int .i64 rv.1.s, .string rv.1.t, .slice na9 rv.1.ns.length nc9, .slice ka9 rv.2.list.length kc9] 25)).cell? ⟨W.heap.size, 2, none⟩ = some (.int .i64 p.1.s) := (e1).cell 2
    have d3 : (x1.alloc (.cells #[.int .i64 rv.1.k, .int .i64 rv.1.n, .int .i64 rv.1.s, .string rv.1.t, .slice na9 rv.1.ns.length nc9, .slice ka9 rv.2.list.length kc9] 25)).cell? ⟨W.heap.size, 3, none⟩ = some (.string p.1.t) := (e1).cell 3
    have d4 : (x1.alloc (.cells #[.int .i64 rv.1.k, .int .i64 rv.1.n, .int .i64 rv.1.s, .string rv.1.t, .slice na9 rv.1.ns.length nc9, .slice ka9 rv.2.list.length kc9] 25)).cell? ⟨W.heap.size, 4, none⟩ = some (.slice na p.1.ns.length nc) := (e1).cell 4
    have d5 : (x1.alloc (.cells #[.int .i64 rv.1.k, .int .i64 rv.1.n, .int .i64 rv.1.s, .string rv.1.t, .slice na9 rv.1.ns.length nc9, .slice ka9 rv.2.list.length kc9] 25)).cell? ⟨W.heap.size, 5, none⟩ = some (.slice ka p.2.list.length kc) := (e1).cell 5
    have f0 : (x1.alloc (.cells #[.int .i64 rv.1.k, .int .i64 rv.1.n, .int .i64 rv.1.s, .string rv.1.t, .slice na9 rv.1.ns.length nc9, .slice ka9 rv.2.list.length kc9] 25)).cell? ⟨W.heap.size + 1, 0, none⟩ = some (.int .i64 y.1.k) := (e2).cell 0
    have f1 : (x1.alloc (.cells #[.int .i64 rv.1.k, .int .i64 rv.1.n, .int .i64 rv.1.s, .string rv.1.t, .slice na9 rv.1.ns.length nc9, .slice ka9 rv.2.list.length kc9] 25)).cell? ⟨W.heap.size + 1, 1, none⟩ = some (.int .i64 y.1.n) := (e2).cell 1
    have f2 : (x1.alloc (.cells #[.int .i64 rv.1.k, .int .i64 rv.1.n, .int .i64 rv.1.s, .string rv.1.t, .slice na9 rv.1.ns.length nc9, .slice ka9 rv.2.list.length kc9] 25)).cell? ⟨W.heap.size + 1, 2, none⟩ = some (.int .i64 y.1.s) := (e2).cell 2
    have f3 : (x1.alloc (.cells #[.int .i64 rv.1.k, .int .i64 rv.1.n, .int .i64 rv.1.s, .string rv.1.t, .slice na9 rv.1.ns.length nc9, .slice ka9 rv.2.list.length kc9] 25)).cell? ⟨W.heap.size + 1, 3, none⟩ = some (.string y.1.t) := (e2).cell 3
    have f4 : (x1.alloc (.cells #[.int .i64 rv.1.k, .int .i64 rv.1.n, .int .i64 rv.1.s, .string rv.1.t, .slice na9 rv.1.ns.length nc9, .slice ka9 rv.2.list.length kc9] 25)).cell? ⟨W.heap.size + 1, 4, none⟩ = some (.slice na2 y.1.ns.length nc2) := (e2).cell 4
    have f5 : (x1.alloc (.cells #[.int .i64 rv.1.k, .int .i64 rv.1.n, .int .i64 rv.1.s, .string rv.1.t, .slice na9 rv.1.ns.length nc9, .slice ka9 rv.2.list.length kc9] 25)).cell? ⟨W.heap.size + 1, 5, none⟩ = some (.slice ka2 y.2.list.length kc2) := (e2).cell 5
    clear e1 e2
    go_wp2_with fail
    generalize hWW : World.alloc x1 _ = W9
    obtain rfl : x2 = W9 := by rw [← hWW, ← HD2.out]
    clear hWW HD2
    refine (kR.out _ HEx2.out).mono ?_
    clear d0 d1 d2 d3 d4 d5 f0 f1 f2 f3 f4 f5
    rintro e x3 ⟨na10, nc10, ka10, kc10, rfl, H10⟩
    obtain ⟨x4, HD4⟩ : ∃ x4, Hid (x3.alloc (.cells #[.int .i64 rv.1.k, .int .i64 rv.1.n, .int .i64 rv.1.s, .string rv.1.t, .slice na10 rv.1.ns.length nc10, .slice ka10 rv.2.list.length kc10] 25) = x4) := ⟨_, rfl⟩
    have q34 : Below x3.heap.size x3 x4 := by rw [← HD4.out]; exact (Below.refl _ _).alloc (Nat.le_refl _) _
    have HEx3 : Hid (E x3) := H10.out.2.1
    have HEx4 : Hid (E x4) := EB.out _ _ HEx3.out q34
    have q24 : Below x2.heap.size x2 x4 := H10.out.2.2.trans (q34.mono H10.out.2.2.size)
    have q14 : Below x1.heap.size x1 x4 := q12.trans (q24.mono q12.size)
    have b13 := HB13.out.below q24 HB13.out.lt
    rw [← HD4.out] at b13
    have d0 : (x3.alloc (.cells #[.int .i64 rv.1.k, .int .i64 rv.1.n, .int .i64 rv.1.s, .string rv.1.t, .slice na10 rv.1.ns.length nc10, .slice ka10 rv.2.list.length kc10] 25)).cell? ⟨x1.heap.size, 0, none⟩ = some (.int .i64 rv.1.k) := (b13).cell 0
    have d1 : (x3.alloc (.cells #[.int .i64 rv.1.k, .int .i64 rv.1.n, .int .i64 rv.1.s, .string rv.1.t, .slice na10 rv.1.ns.length nc10, .slice ka10 rv.2.list.length kc10] 25)).cell? ⟨x1.heap.size, 1, none⟩ = some (.int .i64 rv.1.n) := (b13).cell 1
    have d2 : (x3.alloc (.cells #[.int .i64 rv.1.k, .int .i64 rv.1.n, .int .i64 rv.1.s, .string rv.1.t, .slice na10 rv.1.ns.length nc10, .slice ka10 rv.2.list.length kc10] 25)).cell? ⟨x1.heap.size, 2, none⟩ = some (.int .i64 rv.1.s) := (b13).cell 2
    have d3 : (x3.alloc (.cells #[.int .i64 rv.1.k, .int .i64 rv.1.n, .int .i64 rv.1.s, .string rv.1.t, .slice na10 rv.1.ns.length nc10, .slice ka10 rv.2.list.length kc10] 25)).cell? ⟨x1.heap.size, 3, none⟩ = some (.string rv.1.t) := (b13).cell 3
    have d4 : (x3.alloc (.cells #[.int .i64 rv.1.k, .int .i64 rv.1.n, .int .i64 rv.1.s, .string rv.1.t, .slice na10 rv.1.ns.length nc10, .slice ka10 rv.2.list.length kc10] 25)).cell? ⟨x1.heap.size, 4, none⟩ = some (.slice na9 rv.1.ns.length nc9) := (b13).cell 4
    have d5 : (x3.alloc (.cells #[.int .i64 rv.1.k, .int .i64 rv.1.n, .int .i64 rv.1.s, .string rv.1.t, .slice na10 rv.1.ns.length nc10, .slice ka10 rv.2.list.length kc10] 25)).cell? ⟨x1.heap.size, 5, none⟩ = some (.slice ka9 rv.2.list.length kc9) := (b13).cell 5
    clear b13
    have HQ4 : Hid (Calls Try.prog 13 #[.agg #[.int .i64 rv.1.k, .int .i64 rv.1.n, .int .i64 rv.1.s, .string rv.1.t, .slice na9 rv.1.ns.length nc9, .slice ka9 rv.2.list.length kc9], .agg #[.int .i64 rv.1.k, .int .i64 rv.1.n, .int .i64 rv.1.s, .string rv.1.t, .slice na10 rv.1.ns.length nc10, .slice ka10 rv.2.list.length kc10]] x4 fun e w' => e = .returned (.bool true) ∧ E w' ∧ Below x4.heap.size x4 w') := (equal_any _ rv (Nat.le_refl _) HWr.out rv HWr.out na9 nc9 ka9 kc9 na10 nc10 ka10 kc10 x4 (HL9.out.1.vl.below q14) (H10.out.1.below q34)).mono fun e w' ⟨t, he, hb⟩ => ⟨by rw [he, hb.out.1.2 rfl], EB.out _ _ HEx4.out hb.out.2, hb.out.2⟩
    have HQ14 : Hid (Below x1.heap.size x1 x4 ∧ Below x2.heap.size x2 x4) := ⟨q14, q24⟩
    clear q12 q34 q24 q14 H10
    go_wp2_with fail
    generalize hWW : World.alloc x3 _ = W9
    obtain rfl : x4 = W9 := by rw [← hWW, ← HD4.out]
    clear hWW HD4
    refine HQ4.out.mono ?_
    clear d0 d1 d2 d3 d4 d5
    clear HQ4
    rintro e x5 ⟨rfl, h5⟩
    have HEx5 : Hid (E x5) := h5.1
    have HX1 : Hid (Below x1.heap.size x1 x5) := HQ14.out.1.trans (h5.2.mono HQ14.out.1.size)
    have HX13 : Hid (Below x2.heap.size x2 x5) := HQ14.out.2.trans (h5.2.mono HQ14.out.2.size)
    clear h5 HQ14
    by_cases he : ee = 0
    case neg =>
      have b13 := HB13.out.below HX13.out HB13.out.lt
      have d0 : x5.cell? ⟨x1.heap.size, 0, none⟩ = some (.int .i64 rv.1.k) := (b13).cell 0
      have d1 : x5.cell? ⟨x1.heap.size, 1, none⟩ = some (.int .i64 rv.1.n) := (b13).cell 1
      have d2 : x5.cell? ⟨x1.heap.size, 2, none⟩ = some (.int .i64 rv.1.s) := (b13).cell 2
      have d3 : x5.cell? ⟨x1.heap.size, 3, none⟩ = some (.string rv.1.t) := (b13).cell 3
      have d4 : x5.cell? ⟨x1.heap.size, 4, none⟩ = some (.slice na9 rv.1.ns.length nc9) := (b13).cell 4
      have d5 : x5.cell? ⟨x1.heap.size, 5, none⟩ = some (.slice ka9 rv.2.list.length kc9) := (b13).cell 5
      clear b13
      have hSp := spoil_any _ rv (Nat.le_refl _) HWr.out na9 nc9 ka9 kc9 L x5 (HL9.out.1.keep fun x hx => HX1.out.block x (HL9.out.2.1 x hx).2) HL9.out.2.2 (fun x hx => Nat.lt_of_lt_of_le (HL9.out.2.1 x hx).2 HX1.out.size)
      go_wp2_with fail
      refine hSp.mono ?_
      clear hSp
      clear d0 d1 d2 d3 d4 d5
      rintro e s1 ⟨rfl, hS⟩
      have HEs1 : Hid (E s1) := EX.out _ _ HEx5.out (hS.out.below (fun x hx => Nat.le_trans (EU.out _ HE0.out) (HL9.out.2.1 x hx).1) (EU.out _ HEx5.out))
      clear hS
      have d0 : s1.cell? ⟨B7, 0, none⟩ = some (.int .i64 p.1.k) := (E7.out _ HEs1.out).cell 0
      have d1 : s1.cell? ⟨B7, 1, none⟩ = some (.int .i64 p.1.n) := (E7.out _ HEs1.out).cell 1
      have d2 : s1.cell? ⟨B7, 2, none⟩ = some (.int .i64 p.1.s) := (E7.out _ HEs1.out).cell 2
      have d3 : s1.cell? ⟨B7, 3, none⟩ = some (.string p.1.t) := (E7.out _ HEs1.out).cell 3
      have d4 : s1.cell? ⟨B7, 4, none⟩ = some (.slice na5 p.1.ns.length nc5) := (E7.out _ HEs1.out).cell 4
      have d5 : s1.cell? ⟨B7, 5, none⟩ = some (.slice ka5 p.2.list.length kc5) := (E7.out _ HEs1.out).cell 5
      have f0 : s1.cell? ⟨W.heap.size, 0, none⟩ = some (.int .i64 p.1.k) := (E1.out _ HEs1.out).cell 0
      have f1 : s1.cell? ⟨W.heap.size, 1, none⟩ = some (.int .i64 p.1.n) := (E1.out _ HEs1.out).cell 1
      have f2 : s1.cell? ⟨W.heap.size, 2, none⟩ = some (.int .i64 p.1.s) := (E1.out _ HEs1.out).cell 2
      have f3 : s1.cell? ⟨W.heap.size, 3, none⟩ = some (.string p.1.t) := (E1.out _ HEs1.out).cell 3
      have f4 : s1.cell? ⟨W.heap.size, 4, none⟩ = some (.slice na p.1.ns.length nc) := (E1.out _ HEs1.out).cell 4
      have f5 : s1.cell? ⟨W.heap.size, 5, none⟩ = some (.slice ka p.2.list.length kc) := (E1.out _ HEs1.out).cell 5
      go_wp2_with fail
      refine (kQp.out _ HEs1.out).mono ?_
      rintro e s2 ⟨rfl, hC7⟩
      have HEs2 : Hid (E s2) := hC7
      clear hC7
      clear d0 d1 d2 d3 d4 d5 f0 f1 f2 f3 f4 f5
      have d0 : s2.cell? ⟨B8, 0, none⟩ = some (.int .i64 y.1.k) := (E8.out _ HEs2.out).cell 0
      have d1 : s2.cell? ⟨B8, 1, none⟩ = some (.int .i64 y.1.n) := (E8.out _ HEs2.out).cell 1
      have d2 : s2.cell? ⟨B8, 2, none⟩ = some (.int .i64 y.1.s) := (E8.out _ HEs2.out).cell 2
      have d3 : s2.cell? ⟨B8, 3, none⟩ = some (.string y.1.t) := (E8.out _ HEs2.out).cell 3
      have d4 : s2.cell? ⟨B8, 4, none⟩ = some (.slice na6 y.1.ns.length nc6) := (E8.out _ HEs2.out).cell 4
      have d5 : s2.cell? ⟨B8, 5, none⟩ = some (.slice ka6 y.2.list.length kc6) := (E8.out _ HEs2.out).cell 5
      have f0 : s2.cell? ⟨W.heap.size + 1, 0, none⟩ = some (.int .i64 y.1.k) := (E2.out _ HEs2.out).cell 0
      have f1 : s2.cell? ⟨W.heap.size + 1, 1, none⟩ = some (.int .i64 y.1.n) := (E2.out _ HEs2.out).cell 1
      have f2 : s2.cell? ⟨W.heap.size + 1, 2, none⟩ = some (.int .i64 y.1.s) := (E2.out _ HEs2.out).cell 2
      have f3 : s2.cell? ⟨W.heap.size + 1, 3, none⟩ = some (.string y.1.t) := (E2.out _ HEs2.out).cell 3
      have f4 : s2.cell? ⟨W.heap.size + 1, 4, none⟩ = some (.slice na2 y.1.ns.length nc2) := (E2.out _ HEs2.out).cell 4
      have f5 : s2.cell? ⟨W.heap.size + 1, 5, none⟩ = some (.slice ka2 y.2.list.length kc2) := (E2.out _ HEs2.out).cell 5
      go_wp2_with fail
      refine (kQy.out _ HEs2.out).mono ?_
      rintro e s3 ⟨rfl, hC7⟩
      have HEs3 : Hid (E s3) := hC7
      clear hC7
      clear d0 d1 d2 d3 d4 d5 f0 f1 f2 f3 f4 f5
      go_wp2_with fail
      refine (kN.out _ HEs3.out).mono ?_
      rintro e s4 ⟨rfl, hC7⟩
      have HEs4 : Hid (E s4) := hC7
      clear hC7
      go_wp2
      go_ret
      exact ⟨rfl, EF.out _ HEs4.out⟩
    subst he
    obtain ⟨hc0, hh0, hf0⟩ := HOk.out (by first | rfl | trivial)
    have hF := vField rv name hc0 HWr.out HWx.out na9 nc9 ka9 kc9 x5 (HL9.out.1.vl.below HX1.out)
    rw [hh0, hf0] at hF
    have HF : Hid (Calls Try.prog 19 #[.agg #[.int .i64 rv.1.k, .int .i64 rv.1.n, .int .i64 rv.1.s, .string rv.1.t, .slice na9 rv.1.ns.length nc9, .slice ka9 rv.2.list.length kc9], .string name] x5 fun e w' => ∃ na11 nc11 ka11 kc11, e = .returned (.tuple #[.agg #[.int .i64 y.1.k, .int .i64 y.1.n, .int .i64 y.1.s, .string y.1.t, .slice na11 y.1.ns.length nc11, .slice ka11 y.2.list.length kc11], .bool true]) ∧ Hid (Vl w' y na11 nc11 ka11 kc11 ∧ Below x5.heap.size x5 w')) := hF
    clear hF hc0 hh0 hf0
    have b13 := HB13.out.below HX13.out HB13.out.lt
    have d0 : x5.cell? ⟨x1.heap.size, 0, none⟩ = some (.int .i64 rv.1.k) := (b13).cell 0
    have d1 : x5.cell? ⟨x1.heap.size, 1, none⟩ = some (.int .i64 rv.1.n) := (b13).cell 1
    have d2 : x5.cell? ⟨x1.heap.size, 2, none⟩ = some (.int .i64 rv.1.s) := (b13).cell 2
    have d3 : x5.cell? ⟨x1.heap.size, 3, none⟩ = some (.string rv.1.t) := (b13).cell 3
    have d4 : x5.cell? ⟨x1.heap.size, 4, none⟩ = some (.slice na9 rv.1.ns.length nc9) := (b13).cell 4
    have d5 : x5.cell? ⟨x1.heap.size, 5, none⟩ = some (.slice ka9 rv.2.list.length kc9) := (b13).cell 5
    clear b13
    go_wp2_with fail
    refine HF.out.mono ?_
    clear HF
    clear d0 d1 d2 d3 d4 d5
    rintro e x6 ⟨na11, nc11, ka11, kc11, rfl, H11⟩
    obtain ⟨x7, HD7⟩ : ∃ x7, Hid (x6.alloc (.cells #[.int .i64 y.1.k, .int .i64 y.1.n, .int .i64 y.1.s, .string y.1.t, .slice na11 y.1.ns.length nc11, .slice ka11 y.2.list.length kc11] 25) = x7) := ⟨_, rfl⟩
    have q67 : Below x6.heap.size x6 x7 := by rw [← HD7.out]; exact (Below.refl _ _).alloc (Nat.le_refl _) _
    have q57 : Below x5.heap.size x5 x7 := H11.out.2.trans (q67.mono H11.out.2.size)
    have HEx7 : Hid (E x7) := EB.out _ _ HEx5.out q57
    have HQ7 : Hid (Calls Try.prog 13 #[.agg #[.int .i64 y.1.k, .int .i64 y.1.n, .int .i64 y.1.s, .string y.1.t, .slice na11 y.1.ns.length nc11, .slice ka11 y.2.list.length kc11], .agg #[.int .i64 y.1.k, .int .i64 y.1.n, .int .i64 y.1.s, .string y.1.t, .slice na2 y.1.ns.length nc2, .slice ka2 y.2.list.length kc2]] x7 fun e w' => e = .returned (.bool true) ∧ Below x7.heap.size x7 w') := (equal_any _ y (Nat.le_refl _) HWy.out y HWy.out na11 nc11 ka11 kc11 na2 nc2 ka2 kc2 x7 (H11.out.1.below q67) (VY.out _ HEx7.out)).mono fun e w' ⟨t, he, hb⟩ => ⟨by rw [he, hb.out.1.2 rfl], hb.out.2⟩
    have HX5 : Hid (Below x5.heap.size x5 x7) := q57
    have e2 := E2.out _ HEx7.out
    rw [← HD7.out] at e2
    have f0 : (x6.alloc (.cells #[.int .i64 y.1.k, .int .i64 y.1.n, .int .i64 y.1.s, .string y.1.t, .slice na11 y.1.ns.length nc11, .slice ka11 y.2.list.length kc11] 25)).cell? ⟨W.heap.size + 1, 0, none⟩ = some (.int .i64 y.1.k) := (e2).cell 0
    have f1 : (x6.alloc (.cells #[.int .i64 y.1.k, .int .i64 y.1.n, .int .i64 y.1.s, .string y.1.t, .slice na11 y.1.ns.length nc11, .slice ka11 y.2.list.length kc11] 25)).cell? ⟨W.heap.size + 1, 1, none⟩ = some (.int .i64 y.1.n) := (e2).cell 1
    have f2 : (x6.alloc (.cells #[.int .i64 y.1.k, .int .i64 y.1.n, .int .i64 y.1.s, .string y.1.t, .slice na11 y.1.ns.length nc11, .slice ka11 y.2.list.length kc11] 25)).cell? ⟨W.heap.size + 1, 2, none⟩ = some (.int .i64 y.1.s) := (e2).cell 2
    have f3 : (x6.alloc (.cells #[.int .i64 y.1.k, .int .i64 y.1.n, .int .i64 y.1.s, .string y.1.t, .slice na11 y.1.ns.length nc11, .slice ka11 y.2.list.length kc11] 25)).cell? ⟨W.heap.size + 1, 3, none⟩ = some (.string y.1.t) := (e2).cell 3
    have f4 : (x6.alloc (.cells #[.int .i64 y.1.k, .int .i64 y.1.n, .int .i64 y.1.s, .string y.1.t, .slice na11 y.1.ns.length nc11, .slice ka11 y.2.list.length kc11] 25)).cell? ⟨W.heap.size + 1, 4, none⟩ = some (.slice na2 y.1.ns.length nc2) := (e2).cell 4
    have f5 : (x6.alloc (.cells #[.int .i64 y.1.k, .int .i64 y.1.n, .int .i64 y.1.s, .string y.1.t, .slice na11 y.1.ns.length nc11, .slice ka11 y.2.list.length kc11] 25)).cell? ⟨W.heap.size + 1, 5, none⟩ = some (.slice ka2 y.2.list.length kc2) := (e2).cell 5
    clear e2 q67 q57 H11
    go_wp2_with fail
    generalize hWW : World.alloc x6 _ = W9
    obtain rfl : x7 = W9 := by rw [← hWW, ← HD7.out]
    clear hWW HD7
    refine HQ7.out.mono ?_
    clear HQ7
    clear f0 f1 f2 f3 f4 f5
    rintro e x8 ⟨rfl, h8⟩
    have q58 : Below x5.heap.size x5 x8 := HX5.out.trans (h8.mono HX5.out.size)
    have HEx8 : Hid (E x8) := EB.out _ _ HEx5.out q58
    have HY1 : Hid (Below x1.heap.size x1 x8) := HX1.out.trans (q58.mono HX1.out.size)
    have HY13 : Hid (Below x2.heap.size x2 x8) := HX13.out.trans (q58.mono HX13.out.size)
    clear h8 q58 HX5 HX1 HX13
    have HX1 : Hid (Below x1.heap.size x1 x8) := HY1.out
    have HX13 : Hid (Below x2.heap.size x2 x8) := HY13.out
    have b13 := HB13.out.below HX13.out HB13.out.lt
    have d0 : x8.cell? ⟨x1.heap.size, 0, none⟩ = some (.int .i64 rv.1.k) := (b13).cell 0
    have d1 : x8.cell? ⟨x1.heap.size, 1, none⟩ = some (.int .i64 rv.1.n) := (b13).cell 1
    have d2 : x8.cell? ⟨x1.heap.size, 2, none⟩ = some (.int .i64 rv.1.s) := (b13).cell 2
    have d3 : x8.cell? ⟨x1.heap.size, 3, none⟩ = some (.string rv.1.t) := (b13).cell 3
    have d4 : x8.cell? ⟨x1.heap.size, 4, none⟩ = some (.slice na9 rv.1.ns.length nc9) := (b13).cell 4
    have d5 : x8.cell? ⟨x1.heap.size, 5, none⟩ = some (.slice ka9 rv.2.list.length kc9) := (b13).cell 5
    clear b13
    have hSp := spoil_any _ rv (Nat.le_refl _) HWr.out na9 nc9 ka9 kc9 L x8 (HL9.out.1.keep fun x hx => HX1.out.block x (HL9.out.2.1 x hx).2) HL9.out.2.2 (fun x hx => Nat.lt_of_lt_of_le (HL9.out.2.1 x hx).2 HX1.out.size)
    go_wp2_with fail
    refine hSp.mono ?_
    clear hSp
    clear d0 d1 d2 d3 d4 d5
    rintro e s1 ⟨rfl, hS⟩
    have HEs1 : Hid (E s1) := EX.out _ _ HEx8.out (hS.out.below (fun x hx => Nat.le_trans (EU.out _ HE0.out) (HL9.out.2.1 x hx).1) (EU.out _ HEx8.out))
    clear hS
    have d0 : s1.cell? ⟨B7, 0, none⟩ = some (.int .i64 p.1.k) := (E7.out _ HEs1.out).cell 0
    have d1 : s1.cell? ⟨B7, 1, none⟩ = some (.int .i64 p.1.n) := (E7.out _ HEs1.out).cell 1
    have d2 : s1.cell? ⟨B7, 2, none⟩ = some (.int .i64 p.1.s) := (E7.out _ HEs1.out).cell 2
    have d3 : s1.cell? ⟨B7, 3, none⟩ = some (.string p.1.t) := (E7.out _ HEs1.out).cell 3
    have d4 : s1.cell? ⟨B7, 4, none⟩ = some (.slice na5 p.1.ns.length nc5) := (E7.out _ HEs1.out).cell 4
    have d5 : s1.cell? ⟨B7, 5, none⟩ = some (.slice ka5 p.2.list.length kc5) := (E7.out _ HEs1.out).cell 5
    have f0 : s1.cell? ⟨W.heap.size, 0, none⟩ = some (.int .i64 p.1.k) := (E1.out _ HEs1.out).cell 0
    have f1 : s1.cell? ⟨W.heap.size, 1, none⟩ = some (.int .i64 p.1.n) := (E1.out _ HEs1.out).cell 1
    have f2 : s1.cell? ⟨W.heap.size, 2, none⟩ = some (.int .i64 p.1.s) := (E1.out _ HEs1.out).cell 2
    have f3 : s1.cell? ⟨W.heap.size, 3, none⟩ = some (.string p.1.t) := (E1.out _ HEs1.out).cell 3
    have f4 : s1.cell? ⟨W.heap.size, 4, none⟩ = some (.slice na p.1.ns.length nc) := (E1.out _ HEs1.out).cell 4
    have f5 : s1.cell? ⟨W.heap.size, 5, none⟩ = some (.slice ka p.2.list.length kc) := (E1.out _ HEs1.out).cell 5
    go_wp2_with fail
    refine (kQp.out _ HEs1.out).mono ?_
    rintro e s2 ⟨rfl, hC7⟩
    have HEs2 : Hid (E s2) := hC7
    clear hC7
    clear d0 d1 d2 d3 d4 d5 f0 f1 f2 f3 f4 f5
    have d0 : s2.cell? ⟨B8, 0, none⟩ = some (.int .i64 y.1.k) := (E8.out _ HEs2.out).cell 0
    have d1 : s2.cell? ⟨B8, 1, none⟩ = some (.int .i64 y.1.n) := (E8.out _ HEs2.out).cell 1
    have d2 : s2.cell? ⟨B8, 2, none⟩ = some (.int .i64 y.1.s) := (E8.out _ HEs2.out).cell 2
    have d3 : s2.cell? ⟨B8, 3, none⟩ = some (.string y.1.t) := (E8.out _ HEs2.out).cell 3
    have d4 : s2.cell? ⟨B8, 4, none⟩ = some (.slice na6 y.1.ns.length nc6) := (E8.out _ HEs2.out).cell 4
    have d5 : s2.cell? ⟨B8, 5, none⟩ = some (.slice ka6 y.2.list.length kc6) := (E8.out _ HEs2.out).cell 5
    have f0 : s2.cell? ⟨W.heap.size + 1, 0, none⟩ = some (.int .i64 y.1.k) := (E2.out _ HEs2.out).cell 0
    have f1 : s2.cell? ⟨W.heap.size + 1, 1, none⟩ = some (.int .i64 y.1.n) := (E2.out _ HEs2.out).cell 1
    have f2 : s2.cell? ⟨W.heap.size + 1, 2, none⟩ = some (.int .i64 y.1.s) := (E2.out _ HEs2.out).cell 2
    have f3 : s2.cell? ⟨W.heap.size + 1, 3, none⟩ = some (.string y.1.t) := (E2.out _ HEs2.out).cell 3
    have f4 : s2.cell? ⟨W.heap.size + 1, 4, none⟩ = some (.slice na2 y.1.ns.length nc2) := (E2.out _ HEs2.out).cell 4
    have f5 : s2.cell? ⟨W.heap.size + 1, 5, none⟩ = some (.slice ka2 y.2.list.length kc2) := (E2.out _ HEs2.out).cell 5
    go_wp2_with fail
    refine (kQy.out _ HEs2.out).mono ?_
    rintro e s3 ⟨rfl, hC7⟩
    have HEs3 : Hid (E s3) := hC7
    clear hC7
    clear d0 d1 d2 d3 d4 d5 f0 f1 f2 f3 f4 f5
    go_wp2_with fail
    refine (kN.out _ HEs3.out).mono ?_
    rintro e s4 ⟨rfl, hC7⟩
    have HEs4 : Hid (E s4) := hC7
    clear hC7
    go_wp2
    go_ret
    exact ⟨rfl, EF.out _ HEs4.out⟩
  have kC : Hid (∀ W', E W' → Calls Try.prog 12 #[.agg #[.int .i64 p.1.k, .int .i64 p.1.n, .int .i64 p.1.s, .string p.1.t, .slice na p.1.ns.length nc, .slice ka p.2.list.length kc]] W' fun e w' => e = .returned (.int .i64 0) ∧ E w') := fun W' h => (rCheck_any p HWp.out na nc ka kc W' (VP.out _ h)).mono fun e w' ⟨he, hb⟩ => ⟨by rw [he, hp], EB.out _ _ h hb⟩
  have kF : Hid (∀ W', E W' → Calls Try.prog 19 #[.agg #[.int .i64 p.1.k, .int .i64 p.1.n, .int .i64 p.1.s, .string p.1.t, .slice na5 p.1.ns.length nc5, .slice ka5 p.2.list.length kc5], .string name] W' fun e w' => ∃ na7 nc7 ka7 kc7, e = .returned (.tuple #[.agg #[.int .i64 (fldV p name).1.k, .int .i64 (fldV p name).1.n, .int .i64 (fldV p name).1.s, .string (fldV p name).1.t, .slice na7 (fldV p name).1.ns.length nc7, .slice ka7 (fldV p name).2.list.length kc7], .bool (hasF p name)]) ∧ Hid (Vl w' (fldV p name) na7 nc7 ka7 kc7 ∧ E w')) := fun W' h => (vField p name hp HWp.out (by have := HWs.out; omega) na5 nc5 ka5 kc5 W' (VP5.out _ h)).mono fun e w' ⟨a, b, c, d, he, hx⟩ => ⟨a, b, c, d, he, hx.out.1, EB.out _ _ h hx.out.2⟩
  have kG : Hid (∀ W', E W' → Calls Try.prog 20 #[.agg #[.int .i64 p.1.k, .int .i64 p.1.n, .int .i64 p.1.s, .string p.1.t, .slice na p.1.ns.length nc, .slice ka p.2.list.length kc], .string name] W' fun e w' => ∃ na8 nc8 ka8 kc8, e = .returned (.tuple #[.agg #[.int .i64 (fldV p name).1.k, .int .i64 (fldV p name).1.n, .int .i64 (fldV p name).1.s, .string (fldV p name).1.t, .slice na8 (fldV p name).1.ns.length nc8, .slice ka8 (fldV p name).2.list.length kc8], .bool (hasF p name)]) ∧ Hid (Vl w' (fldV p name) na8 nc8 ka8 kc8 ∧ E w' ∧ Below W'.heap.size W' w')) := fun W' h => (rField p name hp HWp.out (by have := HWs.out; omega) na nc ka kc W' (VP.out _ h)).mono fun e w' ⟨a, b, c, d, he, hx⟩ => ⟨a, b, c, d, he, hx.out.1, EB.out _ _ h hx.out.2, hx.out.2⟩
  have HWf : Hid (WfV (fldV p name)) := fld_wf HWp.out name
  have hkf : (fldV p name).2.list.length ≤ 140737488355328 := HWf.out.2.1
  clear hp
  generalize hFV : fldV p name = fv at *
  generalize hasF p name = hf at *
  clear hFV
  have d0 : u.cell? ⟨W.heap.size, 0, none⟩ = some (.int .i64 p.1.k) := (E1.out _ HEu.out).cell 0
  have d1 : u.cell? ⟨W.heap.size, 1, none⟩ = some (.int .i64 p.1.n) := (E1.out _ HEu.out).cell 1
  have d2 : u.cell? ⟨W.heap.size, 2, none⟩ = some (.int .i64 p.1.s) := (E1.out _ HEu.out).cell 2
  have d3 : u.cell? ⟨W.heap.size, 3, none⟩ = some (.string p.1.t) := (E1.out _ HEu.out).cell 3
  have d4 : u.cell? ⟨W.heap.size, 4, none⟩ = some (.slice na p.1.ns.length nc) := (E1.out _ HEu.out).cell 4
  have d5 : u.cell? ⟨W.heap.size, 5, none⟩ = some (.slice ka p.2.list.length kc) := (E1.out _ HEu.out).cell 5
  go_wp2_with fail
  refine (kC.out _ HEu.out).mono ?_
  rintro e u1 ⟨rfl, hC7⟩
  have HEu1 : Hid (E u1) := hC7
  clear hC7
  clear d0 d1 d2 d3 d4 d5
  have d0 : u1.cell? ⟨B7, 0, none⟩ = some (.int .i64 p.1.k) := (E7.out _ HEu1.out).cell 0
  have d1 : u1.cell? ⟨B7, 1, none⟩ = some (.int .i64 p.1.n) := (E7.out _ HEu1.out).cell 1
  have d2 : u1.cell? ⟨B7, 2, none⟩ = some (.int .i64 p.1.s) := (E7.out _ HEu1.out).cell 2
  have d3 : u1.cell? ⟨B7, 3, none⟩ = some (.string p.1.t) := (E7.out _ HEu1.out).cell 3
  have d4 : u1.cell? ⟨B7, 4, none⟩ = some (.slice na5 p.1.ns.length nc5) := (E7.out _ HEu1.out).cell 4
  have d5 : u1.cell? ⟨B7, 5, none⟩ = some (.slice ka5 p.2.list.length kc5) := (E7.out _ HEu1.out).cell 5
  go_wp2_with fail
  refine (kF.out _ HEu1.out).mono ?_
  clear d0 d1 d2 d3 d4 d5
  rintro e u2 ⟨na7, nc7, ka7, kc7, rfl, H7⟩
  obtain ⟨u3, HD3⟩ : ∃ u3, Hid (u2.alloc (.cells #[.int .i64 fv.1.k, .int .i64 fv.1.n, .int .i64 fv.1.s, .string fv.1.t, .slice na7 fv.1.ns.length nc7, .slice ka7 fv.2.list.length kc7] 25) = u3) := ⟨_, rfl⟩
  have q23 : Below u2.heap.size u2 u3 := by rw [← HD3.out]; exact (Below.refl _ _).alloc (Nat.le_refl _) _
  have HEu3 : Hid (E u3) := EB.out _ _ H7.out.2 q23
  have HB9 : Hid (Blk u3 u2.heap.size 25 (six fv.1 na7 nc7 ka7 fv.2.list.length kc7)) := by rw [← HD3.out]; exact blk_new u2 25 (six fv.1 na7 nc7 ka7 fv.2.list.length kc7)
  have e1 := E1.out _ HEu3.out
  rw [← HD3.out] at e1
  have d0 : (u2.alloc (.cells #[.int .i64 fv.1.k, .int .i64 fv.1.n, .int .i64 fv.1.s, .string fv.1.t, .slice na7 fv.1.ns.length nc7, .slice ka7 fv.2.list.length kc7] 25)).cell? ⟨W.heap.size, 0, none⟩ = some (.int .i64 p.1.k) := (e1).cell 0
  have d1 : (u2.alloc (.cells #[.int .i64 fv.1.k, .int .i64 fv.1.n, .int .i64 fv.1.s, .string fv.1.t, .slice na7 fv.1.ns.length nc7, .slice ka7 fv.2.list.length kc7] 25)).cell? ⟨W.heap.size, 1, none⟩ = some (.int .i64 p.1.n) := (e1).cell 1
  have d2 : (u2.alloc (.cells #[.int .i64 fv.1.k, .int .i64 fv.1.n, .int .i64 fv.1.s, .string fv.1.t, .slice na7 fv.1.ns.length nc7, .slice ka7 fv.2.list.length kc7] 25)).cell? ⟨W.heap.size, 2, none⟩ = some (.int .i64 p.1.s) := (e1).cell 2
  have d3 : (u2.alloc (.cells #[.int .i64 fv.1.k, .int .i64 fv.1.n, .int .i64 fv.1.s, .string fv.1.t, .slice na7 fv.1.ns.length nc7, .slice ka7 fv.2.list.length kc7] 25)).cell? ⟨W.heap.size, 3, none⟩ = some (.string p.1.t) := (e1).cell 3
  have d4 : (u2.alloc (.cells #[.int .i64 fv.1.k, .int .i64 fv.1.n, .int .i64 fv.1.s, .string fv.1.t, .slice na7 fv.1.ns.length nc7, .slice ka7 fv.2.list.length kc7] 25)).cell? ⟨W.heap.size, 4, none⟩ = some (.slice na p.1.ns.length nc) := (e1).cell 4
  have d5 : (u2.alloc (.cells #[.int .i64 fv.1.k, .int .i64 fv.1.n, .int .i64 fv.1.s, .string fv.1.t, .slice na7 fv.1.ns.length nc7, .slice ka7 fv.2.list.length kc7] 25)).cell? ⟨W.heap.size, 5, none⟩ = some (.slice ka p.2.list.length kc) := (e1).cell 5
  clear e1
  go_wp2_with fail
  generalize hWW : World.alloc u2 _ = W9
  obtain rfl : u3 = W9 := by rw [← hWW, ← HD3.out]
  clear hWW HD3
  refine (kG.out _ HEu3.out).mono ?_
  clear d0 d1 d2 d3 d4 d5
  rintro e u4 ⟨na8, nc8, ka8, kc8, rfl, H8⟩
  obtain ⟨u5, HD5⟩ : ∃ u5, Hid (u4.alloc (.cells #[.int .i64 fv.1.k, .int .i64 fv.1.n, .int .i64 fv.1.s, .string fv.1.t, .slice na8 fv.1.ns.length nc8, .slice ka8 fv.2.list.length kc8] 25) = u5) := ⟨_, rfl⟩
  have q45 : Below u4.heap.size u4 u5 := by rw [← HD5.out]; exact (Below.refl _ _).alloc (Nat.le_refl _) _
  have q35 : Below u3.heap.size u3 u5 := H8.out.2.2.trans (q45.mono H8.out.2.2.size)
  have q25 : Below u2.heap.size u2 u5 := q23.trans (q35.mono q23.size)
  have HEu5 : Hid (E u5) := EB.out _ _ H8.out.2.1 q45
  have HQ5 : Hid (Calls Try.prog 13 #[.agg #[.int .i64 fv.1.k, .int .i64 fv.1.n, .int .i64 fv.1.s, .string fv.1.t, .slice na7 fv.1.ns.length nc7, .slice ka7 fv.2.list.length kc7], .agg #[.int .i64 fv.1.k, .int .i64 fv.1.n, .int .i64 fv.1.s, .string fv.1.t, .slice na8 fv.1.ns.length nc8, .slice ka8 fv.2.list.length kc8]] u5 fun e w' => e = .returned (.bool true) ∧ E w') := (equal_any _ fv (Nat.le_refl _) HWf.out fv HWf.out na7 nc7 ka7 kc7 na8 nc8 ka8 kc8 u5 (H7.out.1.below q25) (H8.out.1.below q45)).mono fun e w' ⟨t, he, hb⟩ => ⟨by rw [he, hb.out.1.2 rfl], EB.out _ _ HEu5.out hb.out.2⟩
  have b9 := HB9.out.below q35 HB9.out.lt
  rw [← HD5.out] at b9
  have d0 : (u4.alloc (.cells #[.int .i64 fv.1.k, .int .i64 fv.1.n, .int .i64 fv.1.s, .string fv.1.t, .slice na8 fv.1.ns.length nc8, .slice ka8 fv.2.list.length kc8] 25)).cell? ⟨u2.heap.size, 0, none⟩ = some (.int .i64 fv.1.k) := (b9).cell 0
  have d1 : (u4.alloc (.cells #[.int .i64 fv.1.k, .int .i64 fv.1.n, .int .i64 fv.1.s, .string fv.1.t, .slice na8 fv.1.ns.length nc8, .slice ka8 fv.2.list.length kc8] 25)).cell? ⟨u2.heap.size, 1, none⟩ = some (.int .i64 fv.1.n) := (b9).cell 1
  have d2 : (u4.alloc (.cells #[.int .i64 fv.1.k, .int .i64 fv.1.n, .int .i64 fv.1.s, .string fv.1.t, .slice na8 fv.1.ns.length nc8, .slice ka8 fv.2.list.length kc8] 25)).cell? ⟨u2.heap.size, 2, none⟩ = some (.int .i64 fv.1.s) := (b9).cell 2
  have d3 : (u4.alloc (.cells #[.int .i64 fv.1.k, .int .i64 fv.1.n, .int .i64 fv.1.s, .string fv.1.t, .slice na8 fv.1.ns.length nc8, .slice ka8 fv.2.list.length kc8] 25)).cell? ⟨u2.heap.size, 3, none⟩ = some (.string fv.1.t) := (b9).cell 3
  have d4 : (u4.alloc (.cells #[.int .i64 fv.1.k, .int .i64 fv.1.n, .int .i64 fv.1.s, .string fv.1.t, .slice na8 fv.1.ns.length nc8, .slice ka8 fv.2.list.length kc8] 25)).cell? ⟨u2.heap.size, 4, none⟩ = some (.slice na7 fv.1.ns.length nc7) := (b9).cell 4
  have d5 : (u4.alloc (.cells #[.int .i64 fv.1.k, .int .i64 fv.1.n, .int .i64 fv.1.s, .string fv.1.t, .slice na8 fv.1.ns.length nc8, .slice ka8 fv.2.list.length kc8] 25)).cell? ⟨u2.heap.size, 5, none⟩ = some (.slice ka7 fv.2.list.length kc7) := (b9).cell 5
  clear b9 q23 q45 q35 q25 H7 H8
  go_wp2_with fail
  generalize hWW : World.alloc u4 _ = W9
  obtain rfl : u5 = W9 := by rw [← hWW, ← HD5.out]
  clear hWW HD5
  refine HQ5.out.mono ?_
  clear HQ5
  clear d0 d1 d2 d3 d4 d5
  rintro e u6 ⟨rfl, h6⟩
  have HEu6 : Hid (E u6) := h6
  clear h6 HB9
  have HE0 : Hid (E u6) := HEu6.out
  have d0 : u6.cell? ⟨B7, 0, none⟩ = some (.int .i64 p.1.k) := (E7.out _ HEu6.out).cell 0
  have d1 : u6.cell? ⟨B7, 1, none⟩ = some (.int .i64 p.1.n) := (E7.out _ HEu6.out).cell 1
  have d2 : u6.cell? ⟨B7, 2, none⟩ = some (.int .i64 p.1.s) := (E7.out _ HEu6.out).cell 2
  have d3 : u6.cell? ⟨B7, 3, none⟩ = some (.string p.1.t) := (E7.out _ HEu6.out).cell 3
  have d4 : u6.cell? ⟨B7, 4, none⟩ = some (.slice na5 p.1.ns.length nc5) := (E7.out _ HEu6.out).cell 4
  have d5 : u6.cell? ⟨B7, 5, none⟩ = some (.slice ka5 p.2.list.length kc5) := (E7.out _ HEu6.out).cell 5
  have f0 : u6.cell? ⟨B8, 0, none⟩ = some (.int .i64 y.1.k) := (E8.out _ HEu6.out).cell 0
  have f1 : u6.cell? ⟨B8, 1, none⟩ = some (.int .i64 y.1.n) := (E8.out _ HEu6.out).cell 1
  have f2 : u6.cell? ⟨B8, 2, none⟩ = some (.int .i64 y.1.s) := (E8.out _ HEu6.out).cell 2
  have f3 : u6.cell? ⟨B8, 3, none⟩ = some (.string y.1.t) := (E8.out _ HEu6.out).cell 3
  have f4 : u6.cell? ⟨B8, 4, none⟩ = some (.slice na6 y.1.ns.length nc6) := (E8.out _ HEu6.out).cell 4
  have f5 : u6.cell? ⟨B8, 5, none⟩ = some (.slice ka6 y.2.list.length kc6) := (E8.out _ HEu6.out).cell 5
  go_wp2_with fail
  refine (kW.out _ HEu6.out).mono ?_
  clear d0 d1 d2 d3 d4 d5 f0 f1 f2 f3 f4 f5
  rintro e x1 ⟨na9, nc9, ka9, kc9, rfl, H9⟩
  obtain ⟨L, hL1, hL2, hL3⟩ := H9.out.1
  have HL9 : Hid (VlL x1 rv na9 nc9 ka9 kc9 L ∧ (∀ x ∈ L, u6.heap.size ≤ x ∧ x < x1.heap.size) ∧ L.Nodup) := ⟨hL1, hL2, hL3⟩
  have HEx1 : Hid (E x1) := H9.out.2
  clear H9 hL1 hL2 hL3
  obtain ⟨x2, HD2⟩ : ∃ x2, Hid (x1.alloc (.cells #[.int .i64 rv.1.k, .int .i64 rv.1.n, .int .i64 rv.1.s, .string rv.1.t, .slice na9 rv.1.ns.length nc9, .slice ka9 rv.2.list.length kc9] 25) = x2) := ⟨_, rfl⟩
  have q12 : Below x1.heap.size x1 x2 := by rw [← HD2.out]; exact (Below.refl _ _).alloc (Nat.le_refl _) _
  have HEx2 : Hid (E x2) := EB.out _ _ HEx1.out q12
  have HB13 : Hid (Blk x2 x1.heap.size 25 (six rv.1 na9 nc9 ka9 rv.2.list.length kc9)) := by rw [← HD2.out]; exact blk_new x1 25 (six rv.1 na9 nc9 ka9 rv.2.list.length kc9)
  have e1 := E1.out _ HEx2.out
  have e2 := E2.out _ HEx2.out
  rw [← HD2.out] at e1 e2
  have d0 : (x1.alloc (.cells #[.int .i64 rv.1.k, .int .i64 rv.1.n, .int .i64 rv.1.s, .string rv.1.t, .slice na9 rv.1.ns.length nc9, .slice ka9 rv.2.list.length kc9] 25)).cell? ⟨W.heap.size, 0, none⟩ = some (.int .i64 p.1.k) := (e1).cell 0
  have d1 : (x1.alloc (.cells #[.int .i64 rv.1.k, .int .i64 rv.1.n, .int .i64 rv.1.s, .string rv.1.t, .slice na9 rv.1.ns.length nc9, .slice ka9 rv.2.list.length kc9] 25)).cell? ⟨W.heap.size, 1, none⟩ = some (.int .i64 p.1.n) := (e1).cell 1
  have d2 : (x1.alloc (.cells #[.int .i64 rv.1.k, .int .i64 rv.1.n, .int .i64 rv.1.s, .string rv.1.t, .slice na9 rv.1.ns.length nc9, .slice ka9 rv.2.list.length kc9] 25)).cell? ⟨W.heap.size, 2, none⟩ = some (.int .i64 p.1.s) := (e1).cell 2
  have d3 : (x1.alloc (.cells #[.int .i64 rv.1.k, .int .i64 rv.1.n, .int .i64 rv.1.s, .string rv.1.t, .slice na9 rv.1.ns.length nc9, .slice ka9 rv.2.list.length kc9] 25)).cell? ⟨W.heap.size, 3, none⟩ = some (.string p.1.t) := (e1).cell 3
  have d4 : (x1.alloc (.cells #[.int .i64 rv.1.k, .int .i64 rv.1.n, .int .i64 rv.1.s, .string rv.1.t, .slice na9 rv.1.ns.length nc9, .slice ka9 rv.2.list.length kc9] 25)).cell? ⟨W.heap.size, 4, none⟩ = some (.slice na p.1.ns.length nc) := (e1).cell 4
  have d5 : (x1.alloc (.cells #[.int .i64 rv.1.k, .int .i64 rv.1.n, .int .i64 rv.1.s, .string rv.1.t, .slice na9 rv.1.ns.length nc9, .slice ka9 rv.2.list.length kc9] 25)).cell? ⟨W.heap.size, 5, none⟩ = some (.slice ka p.2.list.length kc) := (e1).cell 5
  have f0 : (x1.alloc (.cells #[.int .i64 rv.1.k, .int .i64 rv.1.n, .int .i64 rv.1.s, .string rv.1.t, .slice na9 rv.1.ns.length nc9, .slice ka9 rv.2.list.length kc9] 25)).cell? ⟨W.heap.size + 1, 0, none⟩ = some (.int .i64 y.1.k) := (e2).cell 0
  have f1 : (x1.alloc (.cells #[.int .i64 rv.1.k, .int .i64 rv.1.n, .int .i64 rv.1.s, .string rv.1.t, .slice na9 rv.1.ns.length nc9, .slice ka9 rv.2.list.length kc9] 25)).cell? ⟨W.heap.size + 1, 1, none⟩ = some (.int .i64 y.1.n) := (e2).cell 1
  have f2 : (x1.alloc (.cells #[.int .i64 rv.1.k, .int .i64 rv.1.n, .int .i64 rv.1.s, .string rv.1.t, .slice na9 rv.1.ns.length nc9, .slice ka9 rv.2.list.length kc9] 25)).cell? ⟨W.heap.size + 1, 2, none⟩ = some (.int .i64 y.1.s) := (e2).cell 2
  have f3 : (x1.alloc (.cells #[.int .i64 rv.1.k, .int .i64 rv.1.n, .int .i64 rv.1.s, .string rv.1.t, .slice na9 rv.1.ns.length nc9, .slice ka9 rv.2.list.length kc9] 25)).cell? ⟨W.heap.size + 1, 3, none⟩ = some (.string y.1.t) := (e2).cell 3
  have f4 : (x1.alloc (.cells #[.int .i64 rv.1.k, .int .i64 rv.1.n, .int .i64 rv.1.s, .string rv.1.t, .slice na9 rv.1.ns.length nc9, .slice ka9 rv.2.list.length kc9] 25)).cell? ⟨W.heap.size + 1, 4, none⟩ = some (.slice na2 y.1.ns.length nc2) := (e2).cell 4
  have f5 : (x1.alloc (.cells #[.int .i64 rv.1.k, .int .i64 rv.1.n, .int .i64 rv.1.s, .string rv.1.t, .slice na9 rv.1.ns.length nc9, .slice ka9 rv.2.list.length kc9] 25)).cell? ⟨W.heap.size + 1, 5, none⟩ = some (.slice ka2 y.2.list.length kc2) := (e2).cell 5
  clear e1 e2
  go_wp2_with fail
  generalize hWW : World.alloc x1 _ = W9
  obtain rfl : x2 = W9 := by rw [← hWW, ← HD2.out]
  clear hWW HD2
  refine (kR.out _ HEx2.out).mono ?_
  clear d0 d1 d2 d3 d4 d5 f0 f1 f2 f3 f4 f5
  rintro e x3 ⟨na10, nc10, ka10, kc10, rfl, H10⟩
  obtain ⟨x4, HD4⟩ : ∃ x4, Hid (x3.alloc (.cells #[.int .i64 rv.1.k, .int .i64 rv.1.n, .int .i64 rv.1.s, .string rv.1.t, .slice na10 rv.1.ns.length nc10, .slice ka10 rv.2.list.length kc10] 25) = x4) := ⟨_, rfl⟩
  have q34 : Below x3.heap.size x3 x4 := by rw [← HD4.out]; exact (Below.refl _ _).alloc (Nat.le_refl _) _
  have HEx3 : Hid (E x3) := H10.out.2.1
  have HEx4 : Hid (E x4) := EB.out _ _ HEx3.out q34
  have q24 : Below x2.heap.size x2 x4 := H10.out.2.2.trans (q34.mono H10.out.2.2.size)
  have q14 : Below x1.heap.size x1 x4 := q12.trans (q24.mono q12.size)
  have b13 := HB13.out.below q24 HB13.out.lt
  rw [← HD4.out] at b13
  have d0 : (x3.alloc (.cells #[.int .i64 rv.1.k, .int .i64 rv.1.n, .int .i64 rv.1.s, .string rv.1.t, .slice na10 rv.1.ns.length nc10, .slice ka10 rv.2.list.length kc10] 25)).cell? ⟨x1.heap.size, 0, none⟩ = some (.int .i64 rv.1.k) := (b13).cell 0
  have d1 : (x3.alloc (.cells #[.int .i64 rv.1.k, .int .i64 rv.1.n, .int .i64 rv.1.s, .string rv.1.t, .slice na10 rv.1.ns.length nc10, .slice ka10 rv.2.list.length kc10] 25)).cell? ⟨x1.heap.size, 1, none⟩ = some (.int .i64 rv.1.n) := (b13).cell 1
  have d2 : (x3.alloc (.cells #[.int .i64 rv.1.k, .int .i64 rv.1.n, .int .i64 rv.1.s, .string rv.1.t, .slice na10 rv.1.ns.length nc10, .slice ka10 rv.2.list.length kc10] 25)).cell? ⟨x1.heap.size, 2, none⟩ = some (.int .i64 rv.1.s) := (b13).cell 2
  have d3 : (x3.alloc (.cells #[.int .i64 rv.1.k, .int .i64 rv.1.n, .int .i64 rv.1.s, .string rv.1.t, .slice na10 rv.1.ns.length nc10, .slice ka10 rv.2.list.length kc10] 25)).cell? ⟨x1.heap.size, 3, none⟩ = some (.string rv.1.t) := (b13).cell 3
  have d4 : (x3.alloc (.cells #[.int .i64 rv.1.k, .int .i64 rv.1.n, .int .i64 rv.1.s, .string rv.1.t, .slice na10 rv.1.ns.length nc10, .slice ka10 rv.2.list.length kc10] 25)).cell? ⟨x1.heap.size, 4, none⟩ = some (.slice na9 rv.1.ns.length nc9) := (b13).cell 4
  have d5 : (x3.alloc (.cells #[.int .i64 rv.1.k, .int .i64 rv.1.n, .int .i64 rv.1.s, .string rv.1.t, .slice na10 rv.1.ns.length nc10, .slice ka10 rv.2.list.length kc10] 25)).cell? ⟨x1.heap.size, 5, none⟩ = some (.slice ka9 rv.2.list.length kc9) := (b13).cell 5
  clear b13
  have HQ4 : Hid (Calls Try.prog 13 #[.agg #[.int .i64 rv.1.k, .int .i64 rv.1.n, .int .i64 rv.1.s, .string rv.1.t, .slice na9 rv.1.ns.length nc9, .slice ka9 rv.2.list.length kc9], .agg #[.int .i64 rv.1.k, .int .i64 rv.1.n, .int .i64 rv.1.s, .string rv.1.t, .slice na10 rv.1.ns.length nc10, .slice ka10 rv.2.list.length kc10]] x4 fun e w' => e = .returned (.bool true) ∧ E w' ∧ Below x4.heap.size x4 w') := (equal_any _ rv (Nat.le_refl _) HWr.out rv HWr.out na9 nc9 ka9 kc9 na10 nc10 ka10 kc10 x4 (HL9.out.1.vl.below q14) (H10.out.1.below q34)).mono fun e w' ⟨t, he, hb⟩ => ⟨by rw [he, hb.out.1.2 rfl], EB.out _ _ HEx4.out hb.out.2, hb.out.2⟩
  have HQ14 : Hid (Below x1.heap.size x1 x4 ∧ Below x2.heap.size x2 x4) := ⟨q14, q24⟩
  clear q12 q34 q24 q14 H10
  go_wp2_with fail
  generalize hWW : World.alloc x3 _ = W9
  obtain rfl : x4 = W9 := by rw [← hWW, ← HD4.out]
  clear hWW HD4
  refine HQ4.out.mono ?_
  clear d0 d1 d2 d3 d4 d5
  clear HQ4
  rintro e x5 ⟨rfl, h5⟩
  have HEx5 : Hid (E x5) := h5.1
  have HX1 : Hid (Below x1.heap.size x1 x5) := HQ14.out.1.trans (h5.2.mono HQ14.out.1.size)
  have HX13 : Hid (Below x2.heap.size x2 x5) := HQ14.out.2.trans (h5.2.mono HQ14.out.2.size)
  clear h5 HQ14
  by_cases he : ee = 0
  case neg =>
    have b13 := HB13.out.below HX13.out HB13.out.lt
    have d0 : x5.cell? ⟨x1.heap.size, 0, none⟩ = some (.int .i64 rv.1.k) := (b13).cell 0
    have d1 : x5.cell? ⟨x1.heap.size, 1, none⟩ = some (.int .i64 rv.1.n) := (b13).cell 1
    have d2 : x5.cell? ⟨x1.heap.size, 2, none⟩ = some (.int .i64 rv.1.s) := (b13).cell 2
    have d3 : x5.cell? ⟨x1.heap.size, 3, none⟩ = some (.string rv.1.t) := (b13).cell 3
    have d4 : x5.cell? ⟨x1.heap.size, 4, none⟩ = some (.slice na9 rv.1.ns.length nc9) := (b13).cell 4
    have d5 : x5.cell? ⟨x1.heap.size, 5, none⟩ = some (.slice ka9 rv.2.list.length kc9) := (b13).cell 5
    clear b13
    have hSp := spoil_any _ rv (Nat.le_refl _) HWr.out na9 nc9 ka9 kc9 L x5 (HL9.out.1.keep fun x hx => HX1.out.block x (HL9.out.2.1 x hx).2) HL9.out.2.2 (fun x hx => Nat.lt_of_lt_of_le (HL9.out.2.1 x hx).2 HX1.out.size)
    go_wp2_with fail
    refine hSp.mono ?_
    clear hSp
    clear d0 d1 d2 d3 d4 d5
    rintro e s1 ⟨rfl, hS⟩
    have HEs1 : Hid (E s1) := EX.out _ _ HEx5.out (hS.out.below (fun x hx => Nat.le_trans (EU.out _ HE0.out) (HL9.out.2.1 x hx).1) (EU.out _ HEx5.out))
    clear hS
    have d0 : s1.cell? ⟨B7, 0, none⟩ = some (.int .i64 p.1.k) := (E7.out _ HEs1.out).cell 0
    have d1 : s1.cell? ⟨B7, 1, none⟩ = some (.int .i64 p.1.n) := (E7.out _ HEs1.out).cell 1
    have d2 : s1.cell? ⟨B7, 2, none⟩ = some (.int .i64 p.1.s) := (E7.out _ HEs1.out).cell 2
    have d3 : s1.cell? ⟨B7, 3, none⟩ = some (.string p.1.t) := (E7.out _ HEs1.out).cell 3
    have d4 : s1.cell? ⟨B7, 4, none⟩ = some (.slice na5 p.1.ns.length nc5) := (E7.out _ HEs1.out).cell 4
    have d5 : s1.cell? ⟨B7, 5, none⟩ = some (.slice ka5 p.2.list.length kc5) := (E7.out _ HEs1.out).cell 5
    have f0 : s1.cell? ⟨W.heap.size, 0, none⟩ = some (.int .i64 p.1.k) := (E1.out _ HEs1.out).cell 0
    have f1 : s1.cell? ⟨W.heap.size, 1, none⟩ = some (.int .i64 p.1.n) := (E1.out _ HEs1.out).cell 1
    have f2 : s1.cell? ⟨W.heap.size, 2, none⟩ = some (.int .i64 p.1.s) := (E1.out _ HEs1.out).cell 2
    have f3 : s1.cell? ⟨W.heap.size, 3, none⟩ = some (.string p.1.t) := (E1.out _ HEs1.out).cell 3
    have f4 : s1.cell? ⟨W.heap.size, 4, none⟩ = some (.slice na p.1.ns.length nc) := (E1.out _ HEs1.out).cell 4
    have f5 : s1.cell? ⟨W.heap.size, 5, none⟩ = some (.slice ka p.2.list.length kc) := (E1.out _ HEs1.out).cell 5
    go_wp2_with fail
    refine (kQp.out _ HEs1.out).mono ?_
    rintro e s2 ⟨rfl, hC7⟩
    have HEs2 : Hid (E s2) := hC7
    clear hC7
    clear d0 d1 d2 d3 d4 d5 f0 f1 f2 f3 f4 f5
    have d0 : s2.cell? ⟨B8, 0, none⟩ = some (.int .i64 y.1.k) := (E8.out _ HEs2.out).cell 0
    have d1 : s2.cell? ⟨B8, 1, none⟩ = some (.int .i64 y.1.n) := (E8.out _ HEs2.out).cell 1
    have d2 : s2.cell? ⟨B8, 2, none⟩ = some (.int .i64 y.1.s) := (E8.out _ HEs2.out).cell 2
    have d3 : s2.cell? ⟨B8, 3, none⟩ = some (.string y.1.t) := (E8.out _ HEs2.out).cell 3
    have d4 : s2.cell? ⟨B8, 4, none⟩ = some (.slice na6 y.1.ns.length nc6) := (E8.out _ HEs2.out).cell 4
    have d5 : s2.cell? ⟨B8, 5, none⟩ = some (.slice ka6 y.2.list.length kc6) := (E8.out _ HEs2.out).cell 5
    have f0 : s2.cell? ⟨W.heap.size + 1, 0, none⟩ = some (.int .i64 y.1.k) := (E2.out _ HEs2.out).cell 0
    have f1 : s2.cell? ⟨W.heap.size + 1, 1, none⟩ = some (.int .i64 y.1.n) := (E2.out _ HEs2.out).cell 1
    have f2 : s2.cell? ⟨W.heap.size + 1, 2, none⟩ = some (.int .i64 y.1.s) := (E2.out _ HEs2.out).cell 2
    have f3 : s2.cell? ⟨W.heap.size + 1, 3, none⟩ = some (.string y.1.t) := (E2.out _ HEs2.out).cell 3
    have f4 : s2.cell? ⟨W.heap.size + 1, 4, none⟩ = some (.slice na2 y.1.ns.length nc2) := (E2.out _ HEs2.out).cell 4
    have f5 : s2.cell? ⟨W.heap.size + 1, 5, none⟩ = some (.slice ka2 y.2.list.length kc2) := (E2.out _ HEs2.out).cell 5
    go_wp2_with fail
    refine (kQy.out _ HEs2.out).mono ?_
    rintro e s3 ⟨rfl, hC7⟩
    have HEs3 : Hid (E s3) := hC7
    clear hC7
    clear d0 d1 d2 d3 d4 d5 f0 f1 f2 f3 f4 f5
    go_wp2_with fail
    refine (kN.out _ HEs3.out).mono ?_
    rintro e s4 ⟨rfl, hC7⟩
    have HEs4 : Hid (E s4) := hC7
    clear hC7
    go_wp2
    go_ret
    exact ⟨rfl, EF.out _ HEs4.out⟩
  subst he
  obtain ⟨hc0, hh0, hf0⟩ := HOk.out (by first | rfl | trivial)
  have hF := vField rv name hc0 HWr.out HWx.out na9 nc9 ka9 kc9 x5 (HL9.out.1.vl.below HX1.out)
  rw [hh0, hf0] at hF
  have HF : Hid (Calls Try.prog 19 #[.agg #[.int .i64 rv.1.k, .int .i64 rv.1.n, .int .i64 rv.1.s, .string rv.1.t, .slice na9 rv.1.ns.length nc9, .slice ka9 rv.2.list.length kc9], .string name] x5 fun e w' => ∃ na11 nc11 ka11 kc11, e = .returned (.tuple #[.agg #[.int .i64 y.1.k, .int .i64 y.1.n, .int .i64 y.1.s, .string y.1.t, .slice na11 y.1.ns.length nc11, .slice ka11 y.2.list.length kc11], .bool true]) ∧ Hid (Vl w' y na11 nc11 ka11 kc11 ∧ Below x5.heap.size x5 w')) := hF
  clear hF hc0 hh0 hf0
  have b13 := HB13.out.below HX13.out HB13.out.lt
  have d0 : x5.cell? ⟨x1.heap.size, 0, none⟩ = some (.int .i64 rv.1.k) := (b13).cell 0
  have d1 : x5.cell? ⟨x1.heap.size, 1, none⟩ = some (.int .i64 rv.1.n) := (b13).cell 1
  have d2 : x5.cell? ⟨x1.heap.size, 2, none⟩ = some (.int .i64 rv.1.s) := (b13).cell 2
  have d3 : x5.cell? ⟨x1.heap.size, 3, none⟩ = some (.string rv.1.t) := (b13).cell 3
  have d4 : x5.cell? ⟨x1.heap.size, 4, none⟩ = some (.slice na9 rv.1.ns.length nc9) := (b13).cell 4
  have d5 : x5.cell? ⟨x1.heap.size, 5, none⟩ = some (.slice ka9 rv.2.list.length kc9) := (b13).cell 5
  clear b13
  go_wp2_with fail
  refine HF.out.mono ?_
  clear HF
  clear d0 d1 d2 d3 d4 d5
  rintro e x6 ⟨na11, nc11, ka11, kc11, rfl, H11⟩
  obtain ⟨x7, HD7⟩ : ∃ x7, Hid (x6.alloc (.cells #[.int .i64 y.1.k, .int .i64 y.1.n, .int .i64 y.1.s, .string y.1.t, .slice na11 y.1.ns.length nc11, .slice ka11 y.2.list.length kc11] 25) = x7) := ⟨_, rfl⟩
  have q67 : Below x6.heap.size x6 x7 := by rw [← HD7.out]; exact (Below.refl _ _).alloc (Nat.le_refl _) _
  have q57 : Below x5.heap.size x5 x7 := H11.out.2.trans (q67.mono H11.out.2.size)
  have HEx7 : Hid (E x7) := EB.out _ _ HEx5.out q57
  have HQ7 : Hid (Calls Try.prog 13 #[.agg #[.int .i64 y.1.k, .int .i64 y.1.n, .int .i64 y.1.s, .string y.1.t, .slice na11 y.1.ns.length nc11, .slice ka11 y.2.list.length kc11], .agg #[.int .i64 y.1.k, .int .i64 y.1.n, .int .i64 y.1.s, .string y.1.t, .slice na2 y.1.ns.length nc2, .slice ka2 y.2.list.length kc2]] x7 fun e w' => e = .returned (.bool true) ∧ Below x7.heap.size x7 w') := (equal_any _ y (Nat.le_refl _) HWy.out y HWy.out na11 nc11 ka11 kc11 na2 nc2 ka2 kc2 x7 (H11.out.1.below q67) (VY.out _ HEx7.out)).mono fun e w' ⟨t, he, hb⟩ => ⟨by rw [he, hb.out.1.2 rfl], hb.out.2⟩
  have HX5 : Hid (Below x5.heap.size x5 x7) := q57
  have e2 := E2.out _ HEx7.out
  rw [← HD7.out] at e2
  have f0 : (x6.alloc (.cells #[.int .i64 y.1.k, .int .i64 y.1.n, .int .i64 y.1.s, .string y.1.t, .slice na11 y.1.ns.length nc11, .slice ka11 y.2.list.length kc11] 25)).cell? ⟨W.heap.size + 1, 0, none⟩ = some (.int .i64 y.1.k) := (e2).cell 0
  have f1 : (x6.alloc (.cells #[.int .i64 y.1.k, .int .i64 y.1.n, .int .i64 y.1.s, .string y.1.t, .slice na11 y.1.ns.length nc11, .slice ka11 y.2.list.length kc11] 25)).cell? ⟨W.heap.size + 1, 1, none⟩ = some (.int .i64 y.1.n) := (e2).cell 1
  have f2 : (x6.alloc (.cells #[.int .i64 y.1.k, .int .i64 y.1.n, .int .i64 y.1.s, .string y.1.t, .slice na11 y.1.ns.length nc11, .slice ka11 y.2.list.length kc11] 25)).cell? ⟨W.heap.size + 1, 2, none⟩ = some (.int .i64 y.1.s) := (e2).cell 2
  have f3 : (x6.alloc (.cells #[.int .i64 y.1.k, .int .i64 y.1.n, .int .i64 y.1.s, .string y.1.t, .slice na11 y.1.ns.length nc11, .slice ka11 y.2.list.length kc11] 25)).cell? ⟨W.heap.size + 1, 3, none⟩ = some (.string y.1.t) := (e2).cell 3
  have f4 : (x6.alloc (.cells #[.int .i64 y.1.k, .int .i64 y.1.n, .int .i64 y.1.s, .string y.1.t, .slice na11 y.1.ns.length nc11, .slice ka11 y.2.list.length kc11] 25)).cell? ⟨W.heap.size + 1, 4, none⟩ = some (.slice na2 y.1.ns.length nc2) := (e2).cell 4
  have f5 : (x6.alloc (.cells #[.int .i64 y.1.k, .int .i64 y.1.n, .int .i64 y.1.s, .string y.1.t, .slice na11 y.1.ns.length nc11, .slice ka11 y.2.list.length kc11] 25)).cell? ⟨W.heap.size + 1, 5, none⟩ = some (.slice ka2 y.2.list.length kc2) := (e2).cell 5
  clear e2 q67 q57 H11
  go_wp2_with fail
  generalize hWW : World.alloc x6 _ = W9
  obtain rfl : x7 = W9 := by rw [← hWW, ← HD7.out]
  clear hWW HD7
  refine HQ7.out.mono ?_
  clear HQ7
  clear f0 f1 f2 f3 f4 f5
  rintro e x8 ⟨rfl, h8⟩
  have q58 : Below x5.heap.size x5 x8 := HX5.out.trans (h8.mono HX5.out.size)
  have HEx8 : Hid (E x8) := EB.out _ _ HEx5.out q58
  have HY1 : Hid (Below x1.heap.size x1 x8) := HX1.out.trans (q58.mono HX1.out.size)
  have HY13 : Hid (Below x2.heap.size x2 x8) := HX13.out.trans (q58.mono HX13.out.size)
  clear h8 q58 HX5 HX1 HX13
  have HX1 : Hid (Below x1.heap.size x1 x8) := HY1.out
  have HX13 : Hid (Below x2.heap.size x2 x8) := HY13.out
  have b13 := HB13.out.below HX13.out HB13.out.lt
  have d0 : x8.cell? ⟨x1.heap.size, 0, none⟩ = some (.int .i64 rv.1.k) := (b13).cell 0
  have d1 : x8.cell? ⟨x1.heap.size, 1, none⟩ = some (.int .i64 rv.1.n) := (b13).cell 1
  have d2 : x8.cell? ⟨x1.heap.size, 2, none⟩ = some (.int .i64 rv.1.s) := (b13).cell 2
  have d3 : x8.cell? ⟨x1.heap.size, 3, none⟩ = some (.string rv.1.t) := (b13).cell 3
  have d4 : x8.cell? ⟨x1.heap.size, 4, none⟩ = some (.slice na9 rv.1.ns.length nc9) := (b13).cell 4
  have d5 : x8.cell? ⟨x1.heap.size, 5, none⟩ = some (.slice ka9 rv.2.list.length kc9) := (b13).cell 5
  clear b13
  have hSp := spoil_any _ rv (Nat.le_refl _) HWr.out na9 nc9 ka9 kc9 L x8 (HL9.out.1.keep fun x hx => HX1.out.block x (HL9.out.2.1 x hx).2) HL9.out.2.2 (fun x hx => Nat.lt_of_lt_of_le (HL9.out.2.1 x hx).2 HX1.out.size)
  go_wp2_with fail
  refine hSp.mono ?_
  clear hSp
  clear d0 d1 d2 d3 d4 d5
  rintro e s1 ⟨rfl, hS⟩
  have HEs1 : Hid (E s1) := EX.out _ _ HEx8.out (hS.out.below (fun x hx => Nat.le_trans (EU.out _ HE0.out) (HL9.out.2.1 x hx).1) (EU.out _ HEx8.out))
  clear hS
  have d0 : s1.cell? ⟨B7, 0, none⟩ = some (.int .i64 p.1.k) := (E7.out _ HEs1.out).cell 0
  have d1 : s1.cell? ⟨B7, 1, none⟩ = some (.int .i64 p.1.n) := (E7.out _ HEs1.out).cell 1
  have d2 : s1.cell? ⟨B7, 2, none⟩ = some (.int .i64 p.1.s) := (E7.out _ HEs1.out).cell 2
  have d3 : s1.cell? ⟨B7, 3, none⟩ = some (.string p.1.t) := (E7.out _ HEs1.out).cell 3
  have d4 : s1.cell? ⟨B7, 4, none⟩ = some (.slice na5 p.1.ns.length nc5) := (E7.out _ HEs1.out).cell 4
  have d5 : s1.cell? ⟨B7, 5, none⟩ = some (.slice ka5 p.2.list.length kc5) := (E7.out _ HEs1.out).cell 5
  have f0 : s1.cell? ⟨W.heap.size, 0, none⟩ = some (.int .i64 p.1.k) := (E1.out _ HEs1.out).cell 0
  have f1 : s1.cell? ⟨W.heap.size, 1, none⟩ = some (.int .i64 p.1.n) := (E1.out _ HEs1.out).cell 1
  have f2 : s1.cell? ⟨W.heap.size, 2, none⟩ = some (.int .i64 p.1.s) := (E1.out _ HEs1.out).cell 2
  have f3 : s1.cell? ⟨W.heap.size, 3, none⟩ = some (.string p.1.t) := (E1.out _ HEs1.out).cell 3
  have f4 : s1.cell? ⟨W.heap.size, 4, none⟩ = some (.slice na p.1.ns.length nc) := (E1.out _ HEs1.out).cell 4
  have f5 : s1.cell? ⟨W.heap.size, 5, none⟩ = some (.slice ka p.2.list.length kc) := (E1.out _ HEs1.out).cell 5
  go_wp2_with fail
  refine (kQp.out _ HEs1.out).mono ?_
  rintro e s2 ⟨rfl, hC7⟩
  have HEs2 : Hid (E s2) := hC7
  clear hC7
  clear d0 d1 d2 d3 d4 d5 f0 f1 f2 f3 f4 f5
  have d0 : s2.cell? ⟨B8, 0, none⟩ = some (.int .i64 y.1.k) := (E8.out _ HEs2.out).cell 0
  have d1 : s2.cell? ⟨B8, 1, none⟩ = some (.int .i64 y.1.n) := (E8.out _ HEs2.out).cell 1
  have d2 : s2.cell? ⟨B8, 2, none⟩ = some (.int .i64 y.1.s) := (E8.out _ HEs2.out).cell 2
  have d3 : s2.cell? ⟨B8, 3, none⟩ = some (.string y.1.t) := (E8.out _ HEs2.out).cell 3
  have d4 : s2.cell? ⟨B8, 4, none⟩ = some (.slice na6 y.1.ns.length nc6) := (E8.out _ HEs2.out).cell 4
  have d5 : s2.cell? ⟨B8, 5, none⟩ = some (.slice ka6 y.2.list.length kc6) := (E8.out _ HEs2.out).cell 5
  have f0 : s2.cell? ⟨W.heap.size + 1, 0, none⟩ = some (.int .i64 y.1.k) := (E2.out _ HEs2.out).cell 0
  have f1 : s2.cell? ⟨W.heap.size + 1, 1, none⟩ = some (.int .i64 y.1.n) := (E2.out _ HEs2.out).cell 1
  have f2 : s2.cell? ⟨W.heap.size + 1, 2, none⟩ = some (.int .i64 y.1.s) := (E2.out _ HEs2.out).cell 2
  have f3 : s2.cell? ⟨W.heap.size + 1, 3, none⟩ = some (.string y.1.t) := (E2.out _ HEs2.out).cell 3
  have f4 : s2.cell? ⟨W.heap.size + 1, 4, none⟩ = some (.slice na2 y.1.ns.length nc2) := (E2.out _ HEs2.out).cell 4
  have f5 : s2.cell? ⟨W.heap.size + 1, 5, none⟩ = some (.slice ka2 y.2.list.length kc2) := (E2.out _ HEs2.out).cell 5
  go_wp2_with fail
  refine (kQy.out _ HEs2.out).mono ?_
  rintro e s3 ⟨rfl, hC7⟩
  have HEs3 : Hid (E s3) := hC7
  clear hC7
  clear d0 d1 d2 d3 d4 d5 f0 f1 f2 f3 f4 f5
  go_wp2_with fail
  refine (kN.out _ HEs3.out).mono ?_
  rintro e s4 ⟨rfl, hC7⟩
  have HEs4 : Hid (E s4) := hC7
  clear hC7
  go_wp2
  go_ret
  exact ⟨rfl, EF.out _ HEs4.out⟩
end Go.Proofs.Ytiddlpjnfophhaa
