/-
  The document's own Order.
-/
import Derived.Test.YtoggcabenjmnoaaDoorPo
import Derived.Test.YtoggcabenjmnoaaDoorPr
namespace Go.Proofs.YtoggcabenjmnoaaDoor
open Go.RowKit
set_option linter.unusedVariables false
theorem q_str {C : World → Prop} {a : Act} {o : Oper} {K : Act → Prop} (x : Operand) (ho : o.op = .load 9 x) (b k : Nat) (hx : a.eval x = .pointer (some ⟨b, k, none⟩)) (s : ByteArray) (hS : ∀ w, C w → w.cell? ⟨b, k, none⟩ = some (.string s))
    (hk : K (a.put o.dst (.string s))) : o.quiet Tryd.prog a C K :=
  ⟨_, fun w hw => by
    have h := hS w hw
    unfold Oper.quietAt execOp
    simp only [ho, hx]
    go_simp, hk⟩
def OIh (F : Nat) (p : Vt) : Prop := ∀ p' : Vt, wt p' < wt p → GoodO p' → WfV p' → ∀ q' : Vt, GoodO q' → WfV q' → ∀ (na : Option Addr) (nc : Nat) (ka : Option Addr) (kc : Nat) (na2 : Option Addr) (nc2 : Nat) (ka2 : Option Addr) (kc2 : Nat) (W : World), Vl W p' na nc ka kc → Vl W q' na2 nc2 ka2 kc2 →
  Calls Tryd.prog F #[.agg #[.int .i64 p'.1.k, .int .i64 p'.1.n, .int .i64 p'.1.s, .string p'.1.t, .slice na p'.1.ns.length nc, .slice ka p'.2.list.length kc], .agg #[.int .i64 q'.1.k, .int .i64 q'.1.n, .int .i64 q'.1.s, .string q'.1.t, .slice na2 q'.1.ns.length nc2, .slice ka2 q'.2.list.length kc2]] W
    fun e w' => e = .returned (.int .i64 (ordV p' q')) ∧ Below W.heap.size W w'
theorem texts_tx (a b : ByteArray) (w : World) : Calls Tryd.prog 20 #[.string a, .string b] w fun e w' => e = .returned (.int .i64 (tx a b)) ∧ w' = w := texts49 a b w
def clr (k : Int) : Int := if k = 4 then 3 else k
set_option maxRecDepth 8000 in
set_option maxHeartbeats 4000000 in
theorem rord_diff (p q : Vt) (ih : OIh 10 p) (gp : GoodO p) (gq : GoodO q) (hwf : WfV p) (hwq : WfV q) (na : Option Addr) (nc : Nat) (ka : Option Addr) (kc : Nat) (na2 : Option Addr) (nc2 : Nat) (ka2 : Option Addr) (kc2 : Nat) (w : World) (hv : Vl w p na nc ka kc) (hv2 : Vl w q na2 nc2 ka2 kc2) (hne : clr p.1.k ≠ clr q.1.k) :
    Calls Tryd.prog 10 #[.agg #[.int .i64 p.1.k, .int .i64 p.1.n, .int .i64 p.1.s, .string p.1.t, .slice na p.1.ns.length nc, .slice ka p.2.list.length kc], .agg #[.int .i64 q.1.k, .int .i64 q.1.n, .int .i64 q.1.s, .string q.1.t, .slice na2 q.1.ns.length nc2, .slice ka2 q.2.list.length kc2]] w fun e w' => e = .returned (.int .i64 (sg (clr p.1.k) (clr q.1.k))) ∧ Below w.heap.size w w' := by
  obtain ⟨w1, HW1⟩ : ∃ w1, Hid (((w.alloc (.cells #[.int .i64 p.1.k, .int .i64 p.1.n, .int .i64 p.1.s, .string p.1.t, .slice na p.1.ns.length nc, .slice ka p.2.list.length kc] 34)).alloc (.cells #[.int .i64 q.1.k, .int .i64 q.1.n, .int .i64 q.1.s, .string q.1.t, .slice na2 q.1.ns.length nc2, .slice ka2 q.2.list.length kc2] 34)) = w1) := ⟨_, rfl⟩
  have b0 : Below w.heap.size w w1 := by rw [← HW1.out]; exact ((Below.refl _ _).alloc (Nat.le_refl _) _).alloc (by simp) _
  have HC : Hid (∀ W, Below w1.heap.size w1 W → Nd W w.heap.size 0 p.1 na nc ka p.2.list.length kc ∧ Nd W (w.heap.size + 1) 0 q.1 na2 nc2 ka2 q.2.list.length kc2) := fun W hb => by
    rw [← HW1.out] at hb
    have e1 : Below (w.alloc (.cells #[.int .i64 p.1.k, .int .i64 p.1.n, .int .i64 p.1.s, .string p.1.t, .slice na p.1.ns.length nc, .slice ka p.2.list.length kc] 34)).heap.size (w.alloc (.cells #[.int .i64 p.1.k, .int .i64 p.1.n, .int .i64 p.1.s, .string p.1.t, .slice na p.1.ns.length nc, .slice ka p.2.list.length kc] 34)) W := ((Below.refl _ _).alloc (Nat.le_refl _) _).trans (hb.mono (by simp))
    have g2 := box_nd hb
    have e2 : (w.alloc (.cells #[.int .i64 p.1.k, .int .i64 p.1.n, .int .i64 p.1.s, .string p.1.t, .slice na p.1.ns.length nc, .slice ka p.2.list.length kc] 34)).heap.size = w.heap.size + 1 := by simp
    rw [e2] at g2
    exact ⟨box_nd e1, g2⟩
  have v1 := hv.below b0
  have v2 := hv2.below b0
  obtain ⟨C, hC⟩ : ∃ C : World → Prop, C = fun W => Below w1.heap.size w1 W := ⟨_, rfl⟩
  have CD : Hid (∀ W, C W → C { W with drawn := W.drawn + 1 }) := fun W h => by rw [hC] at h ⊢; exact h.drew
  have CA : Hid (∀ W o, C W → C (W.alloc o)) := fun W o h => by rw [hC] at h ⊢; exact h.alloc h.size _
  have CB : Hid (∀ W W', C W → Below W.heap.size W W' → C W') := fun W W' h hb => by rw [hC] at h ⊢; exact h.trans (hb.mono h.size)
  have CE : Hid (∀ W, C W → Below w.heap.size w W) := fun W h => by rw [hC] at h; exact b0.trans (h.mono b0.size)
  have HCw : Hid (C w1) := by rw [hC]; exact Below.refl _ _
  have N1 : Hid (∀ W, C W → Nd W w.heap.size 0 p.1 na nc ka p.2.list.length kc) := fun W h => by rw [hC] at h; exact (HC.out W h).1
  have N2 : Hid (∀ W, C W → Nd W (w.heap.size + 1) 0 q.1 na2 nc2 ka2 q.2.list.length kc2) := fun W h => by rw [hC] at h; exact (HC.out W h).2
  have V1 : Hid (∀ W, C W → Vl W p na nc ka kc) := fun W h => by rw [hC] at h; exact v1.below h
  have V2 : Hid (∀ W, C W → Vl W q na2 nc2 ka2 kc2) := fun W h => by rw [hC] at h; exact v2.below h
  have hCp : ∀ p : Prop, (∀ W, C W → p) ↔ p := fun p => ⟨fun h => h _ HCw.out, fun h _ _ => h⟩
  have hkl := hwf.2.1
  have hkl2 := hwq.2.1
  have HI : Hid (OIh 10 p) := ih
  have GP : Hid (GoodO p) := gp
  have GQ : Hid (GoodO q) := gq
  have HW : Hid (WfV p) := hwf
  have HWq : Hid (WfV q) := hwq
  have m1 : Hid (∀ W, C W → W.cell? ⟨w.heap.size, 0, none⟩ = some (.int .i64 p.1.k)) := fun W h => (N1.out W h).c0
  have m2 : Hid (∀ W, C W → W.cell? ⟨w.heap.size + 1, 0, none⟩ = some (.int .i64 q.1.k)) := fun W h => (N2.out W h).c0
  have k1 : Hid (∀ W, C W → Calls Tryd.prog 17 #[.int .i64 p.1.k] W fun e w' => e = .returned (.int .i64 (clr p.1.k)) ∧ C w') := keep fun W => class46 _ W
  have k2 : Hid (∀ W, C W → Calls Tryd.prog 17 #[.int .i64 q.1.k] W fun e w' => e = .returned (.int .i64 (clr q.1.k)) ∧ C w') := keep fun W => class46 _ W
  clear hC HC b0 v1 v2 ih gp gq hwf hwq hv hv2
  have hb : (clr p.1.k != clr q.1.k) = true := by simp [hne]
  generalize clr p.1.k = CP at *
  generalize clr q.1.k = CQ at *
  go_enter Tryd.func10, Tryd.ntmps10
  go_wp2
  generalize hWW : World.alloc (World.alloc w _) _ = W9
  obtain rfl : w1 = W9 := by rw [← hWW, ← HW1.out]
  clear hWW HW1
  refine q_region (C := C) (by kernel_rfl) (by kernel_rfl) (CD.out _ HCw.out) ?_
  repeat (first
    | go_big_quiet_skip
    | (go_big_quiet_want
       first
       | (refine q_int (.tmp 10) rfl (w.heap.size) 0 rfl _ m1.out ?_
          simp only [Act.put, List.setIfInBounds_toArray, List.set_cons_zero, List.set_cons_succ]
          go_big_quiet_on)
       | (refine q_int (.tmp 13) rfl (w.heap.size + 1) 0 rfl _ m2.out ?_
          simp only [Act.put, List.setIfInBounds_toArray, List.set_cons_zero, List.set_cons_succ]
          go_big_quiet_on)
       | (go_big_quiet_op
          first
          | go_big_quiet_on
          | (apply Exists.intro
             refine ⟨?_, ?_⟩
             · first
               | exact k1.out
               | exact k2.out
             go_big_quiet_on))))
  refine wpQuiet_nil ?_
  clear HCw
  intro W hW
  have HCw : Hid (C W) := hW
  clear hW
  clear m1 m2 k1 k2
  go_wp2_with (go_at_call 18; refine (sign47 _ _ _).mono ?_; rintro e w' ⟨rfl, rfl⟩)
  go_ret
  exact ⟨rfl, CE.out _ HCw.out⟩
set_option maxRecDepth 8000 in
set_option maxHeartbeats 4000000 in
theorem rord_int (p q : Vt) (ih : OIh 10 p) (gp : GoodO p) (gq : GoodO q) (hwf : WfV p) (hwq : WfV q) (na : Option Addr) (nc : Nat) (ka : Option Addr) (kc : Nat) (na2 : Option Addr) (nc2 : Nat) (ka2 : Option Addr) (kc2 : Nat) (w : World) (hv : Vl w p na nc ka kc) (hv2 : Vl w q na2 nc2 ka2 kc2) (c : Int) (hc : c = 2 ∨ c = 5) (hp : clr p.1.k = c) (hq : clr q.1.k = c) :
    Calls Tryd.prog 10 #[.agg #[.int .i64 p.1.k, .int .i64 p.1.n, .int .i64 p.1.s, .string p.1.t, .slice na p.1.ns.length nc, .slice ka p.2.list.length kc], .agg #[.int .i64 q.1.k, .int .i64 q.1.n, .int .i64 q.1.s, .string q.1.t, .slice na2 q.1.ns.length nc2, .slice ka2 q.2.list.length kc2]] w fun e w' => e = .returned (.int .i64 (sg p.1.n q.1.n)) ∧ Below w.heap.size w w' := by
  obtain ⟨w1, HW1⟩ : ∃ w1, Hid (((w.alloc (.cells #[.int .i64 p.1.k, .int .i64 p.1.n, .int .i64 p.1.s, .string p.1.t, .slice na p.1.ns.length nc, .slice ka p.2.list.length kc] 34)).alloc (.cells #[.int .i64 q.1.k, .int .i64 q.1.n, .int .i64 q.1.s, .string q.1.t, .slice na2 q.1.ns.length nc2, .slice ka2 q.2.list.length kc2] 34)) = w1) := ⟨_, rfl⟩
  have b0 : Below w.heap.size w w1 := by rw [← HW1.out]; exact ((Below.refl _ _).alloc (Nat.le_refl _) _).alloc (by simp) _
  have HC : Hid (∀ W, Below w1.heap.size w1 W → Nd W w.heap.size 0 p.1 na nc ka p.2.list.length kc ∧ Nd W (w.heap.size + 1) 0 q.1 na2 nc2 ka2 q.2.list.length kc2) := fun W hb => by
    rw [← HW1.out] at hb
    have e1 : Below (w.alloc (.cells #[.int .i64 p.1.k, .int .i64 p.1.n, .int .i64 p.1.s, .string p.1.t, .slice na p.1.ns.length nc, .slice ka p.2.list.length kc] 34)).heap.size (w.alloc (.cells #[.int .i64 p.1.k, .int .i64 p.1.n, .int .i64 p.1.s, .string p.1.t, .slice na p.1.ns.length nc, .slice ka p.2.list.length kc] 34)) W := ((Below.refl _ _).alloc (Nat.le_refl _) _).trans (hb.mono (by simp))
    have g2 := box_nd hb
    have e2 : (w.alloc (.cells #[.int .i64 p.1.k, .int .i64 p.1.n, .int .i64 p.1.s, .string p.1.t, .slice na p.1.ns.length nc, .slice ka p.2.list.length kc] 34)).heap.size = w.heap.size + 1 := by simp
    rw [e2] at g2
    exact ⟨box_nd e1, g2⟩
  have v1 := hv.below b0
  have v2 := hv2.below b0
  obtain ⟨C, hC⟩ : ∃ C : World → Prop, C = fun W => Below w1.heap.size w1 W := ⟨_, rfl⟩
  have CD : Hid (∀ W, C W → C { W with drawn := W.drawn + 1 }) := fun W h => by rw [hC] at h ⊢; exact h.drew
  have CA : Hid (∀ W o, C W → C (W.alloc o)) := fun W o h => by rw [hC] at h ⊢; exact h.alloc h.size _
  have CB : Hid (∀ W W', C W → Below W.heap.size W W' → C W') := fun W W' h hb => by rw [hC] at h ⊢; exact h.trans (hb.mono h.size)
  have CE : Hid (∀ W, C W → Below w.heap.size w W) := fun W h => by rw [hC] at h; exact b0.trans (h.mono b0.size)
  have HCw : Hid (C w1) := by rw [hC]; exact Below.refl _ _
  have N1 : Hid (∀ W, C W → Nd W w.heap.size 0 p.1 na nc ka p.2.list.length kc) := fun W h => by rw [hC] at h; exact (HC.out W h).1
  have N2 : Hid (∀ W, C W → Nd W (w.heap.size + 1) 0 q.1 na2 nc2 ka2 q.2.list.length kc2) := fun W h => by rw [hC] at h; exact (HC.out W h).2
  have V1 : Hid (∀ W, C W → Vl W p na nc ka kc) := fun W h => by rw [hC] at h; exact v1.below h
  have V2 : Hid (∀ W, C W → Vl W q na2 nc2 ka2 kc2) := fun W h => by rw [hC] at h; exact v2.below h
  have hCp : ∀ p : Prop, (∀ W, C W → p) ↔ p := fun p => ⟨fun h => h _ HCw.out, fun h _ _ => h⟩
  have hkl := hwf.2.1
  have hkl2 := hwq.2.1
  have HI : Hid (OIh 10 p) := ih
  have GP : Hid (GoodO p) := gp
  have GQ : Hid (GoodO q) := gq
  have HW : Hid (WfV p) := hwf
  have HWq : Hid (WfV q) := hwq
  have m1 : Hid (∀ W, C W → W.cell? ⟨w.heap.size, 0, none⟩ = some (.int .i64 p.1.k)) := fun W h => (N1.out W h).c0
  have m2 : Hid (∀ W, C W → W.cell? ⟨w.heap.size + 1, 0, none⟩ = some (.int .i64 q.1.k)) := fun W h => (N2.out W h).c0
  have k1 : Hid (∀ W, C W → Calls Tryd.prog 17 #[.int .i64 p.1.k] W fun e w' => e = .returned (.int .i64 (clr p.1.k)) ∧ C w') := keep fun W => class46 _ W
  have k2 : Hid (∀ W, C W → Calls Tryd.prog 17 #[.int .i64 q.1.k] W fun e w' => e = .returned (.int .i64 (clr q.1.k)) ∧ C w') := keep fun W => class46 _ W
  clear hC HC b0 v1 v2 ih gp gq hwf hwq hv hv2
  rw [hp] at k1
  rw [hq] at k2
  clear hp hq
  rcases hc with rfl | rfl
  all_goals
    go_enter Tryd.func10, Tryd.ntmps10
    go_wp2
    generalize hWW : World.alloc (World.alloc w _) _ = W9
    obtain rfl : w1 = W9 := by rw [← hWW, ← HW1.out]
    clear hWW HW1
    refine q_region (C := C) (by kernel_rfl) (by kernel_rfl) (CD.out _ HCw.out) ?_
    repeat (first
      | go_big_quiet_skip
      | (go_big_quiet_want
         first
         | (refine q_int (.tmp 10) rfl (w.heap.size) 0 rfl _ m1.out ?_
            simp only [Act.put, List.setIfInBounds_toArray, List.set_cons_zero, List.set_cons_succ]
            go_big_quiet_on)
         | (refine q_int (.tmp 13) rfl (w.heap.size + 1) 0 rfl _ m2.out ?_
            simp only [Act.put, List.setIfInBounds_toArray, List.set_cons_zero, List.set_cons_succ]
            go_big_quiet_on)
         | (go_big_quiet_op
            first
            | go_big_quiet_on
            | (apply Exists.intro
               refine ⟨?_, ?_⟩
               · first
                 | exact k1.out
                 | exact k2.out
               go_big_quiet_on))))
    refine wpQuiet_nil ?_
    clear HCw
    intro W hW
    have HCw : Hid (C W) := hW
    clear hW
    clear m1 m2 k1 k2
    have c1 := (N1.out W HCw.out).c1
    have c2 := (N2.out W HCw.out).c1
    simp only [Nat.zero_add] at c1 c2
    go_wp2_with (go_at_call 18; refine (sign47 _ _ _).mono ?_; rintro e w' ⟨rfl, rfl⟩)
    go_ret
    exact ⟨rfl, CE.out _ HCw.out⟩
set_option maxRecDepth 8000 in
set_option maxHeartbeats 4000000 in
theorem rord_num (p q : Vt) (ih : OIh 10 p) (gp : GoodO p) (gq : GoodO q) (hwf : WfV p) (hwq : WfV q) (na : Option Addr) (nc : Nat) (ka : Option Addr) (kc : Nat) (na2 : Option Addr) (nc2 : Nat) (ka2 : Option Addr) (kc2 : Nat) (w : World) (hv : Vl w p na nc ka kc) (hv2 : Vl w q na2 nc2 ka2 kc2) (hp : clr p.1.k = 3) (hq : clr q.1.k = 3) :
    Calls Tryd.prog 10 #[.agg #[.int .i64 p.1.k, .int .i64 p.1.n, .int .i64 p.1.s, .string p.1.t, .slice na p.1.ns.length nc, .slice ka p.2.list.length kc], .agg #[.int .i64 q.1.k, .int .i64 q.1.n, .int .i64 q.1.s, .string q.1.t, .slice na2 q.1.ns.length nc2, .slice ka2 q.2.list.length kc2]] w fun e w' => e = .returned (.int .i64 (nm p.1 q.1)) ∧ Below w.heap.size w w' := by
  obtain ⟨w1, HW1⟩ : ∃ w1, Hid (((w.alloc (.cells #[.int .i64 p.1.k, .int .i64 p.1.n, .int .i64 p.1.s, .string p.1.t, .slice na p.1.ns.length nc, .slice ka p.2.list.length kc] 34)).alloc (.cells #[.int .i64 q.1.k, .int .i64 q.1.n, .int .i64 q.1.s, .string q.1.t, .slice na2 q.1.ns.length nc2, .slice ka2 q.2.list.length kc2] 34)) = w1) := ⟨_, rfl⟩
  have b0 : Below w.heap.size w w1 := by rw [← HW1.out]; exact ((Below.refl _ _).alloc (Nat.le_refl _) _).alloc (by simp) _
  have HC : Hid (∀ W, Below w1.heap.size w1 W → Nd W w.heap.size 0 p.1 na nc ka p.2.list.length kc ∧ Nd W (w.heap.size + 1) 0 q.1 na2 nc2 ka2 q.2.list.length kc2) := fun W hb => by
    rw [← HW1.out] at hb
    have e1 : Below (w.alloc (.cells #[.int .i64 p.1.k, .int .i64 p.1.n, .int .i64 p.1.s, .string p.1.t, .slice na p.1.ns.length nc, .slice ka p.2.list.length kc] 34)).heap.size (w.alloc (.cells #[.int .i64 p.1.k, .int .i64 p.1.n, .int .i64 p.1.s, .string p.1.t, .slice na p.1.ns.length nc, .slice ka p.2.list.length kc] 34)) W := ((Below.refl _ _).alloc (Nat.le_refl _) _).trans (hb.mono (by simp))
    have g2 := box_nd hb
    have e2 : (w.alloc (.cells #[.int .i64 p.1.k, .int .i64 p.1.n, .int .i64 p.1.s, .string p.1.t, .slice na p.1.ns.length nc, .slice ka p.2.list.length kc] 34)).heap.size = w.heap.size + 1 := by simp
    rw [e2] at g2
    exact ⟨box_nd e1, g2⟩
  have v1 := hv.below b0
  have v2 := hv2.below b0
  obtain ⟨C, hC⟩ : ∃ C : World → Prop, C = fun W => Below w1.heap.size w1 W := ⟨_, rfl⟩
  have CD : Hid (∀ W, C W → C { W with drawn := W.drawn + 1 }) := fun W h => by rw [hC] at h ⊢; exact h.drew
  have CA : Hid (∀ W o, C W → C (W.alloc o)) := fun W o h => by rw [hC] at h ⊢; exact h.alloc h.size _
  have CB : Hid (∀ W W', C W → Below W.heap.size W W' → C W') := fun W W' h hb => by rw [hC] at h ⊢; exact h.trans (hb.mono h.size)
  have CE : Hid (∀ W, C W → Below w.heap.size w W) := fun W h => by rw [hC] at h; exact b0.trans (h.mono b0.size)
  have HCw : Hid (C w1) := by rw [hC]; exact Below.refl _ _
  have N1 : Hid (∀ W, C W → Nd W w.heap.size 0 p.1 na nc ka p.2.list.length kc) := fun W h => by rw [hC] at h; exact (HC.out W h).1
  have N2 : Hid (∀ W, C W → Nd W (w.heap.size + 1) 0 q.1 na2 nc2 ka2 q.2.list.length kc2) := fun W h => by rw [hC] at h; exact (HC.out W h).2
  have V1 : Hid (∀ W, C W → Vl W p na nc ka kc) := fun W h => by rw [hC] at h; exact v1.below h
  have V2 : Hid (∀ W, C W → Vl W q na2 nc2 ka2 kc2) := fun W h => by rw [hC] at h; exact v2.below h
  have hCp : ∀ p : Prop, (∀ W, C W → p) ↔ p := fun p => ⟨fun h => h _ HCw.out, fun h _ _ => h⟩
  have hkl := hwf.2.1
  have hkl2 := hwq.2.1
  have HI : Hid (OIh 10 p) := ih
  have GP : Hid (GoodO p) := gp
  have GQ : Hid (GoodO q) := gq
  have HW : Hid (WfV p) := hwf
  have HWq : Hid (WfV q) := hwq
  have m1 : Hid (∀ W, C W → W.cell? ⟨w.heap.size, 0, none⟩ = some (.int .i64 p.1.k)) := fun W h => (N1.out W h).c0
  have m2 : Hid (∀ W, C W → W.cell? ⟨w.heap.size + 1, 0, none⟩ = some (.int .i64 q.1.k)) := fun W h => (N2.out W h).c0
  have k1 : Hid (∀ W, C W → Calls Tryd.prog 17 #[.int .i64 p.1.k] W fun e w' => e = .returned (.int .i64 (clr p.1.k)) ∧ C w') := keep fun W => class46 _ W
  have k2 : Hid (∀ W, C W → Calls Tryd.prog 17 #[.int .i64 q.1.k] W fun e w' => e = .returned (.int .i64 (clr q.1.k)) ∧ C w') := keep fun W => class46 _ W
  have hN : Hid (∀ W, C W → Calls Tryd.prog 19 #[.agg #[.int .i64 p.1.k, .int .i64 p.1.n, .int .i64 p.1.s, .string p.1.t, .slice na p.1.ns.length nc, .slice ka p.2.list.length kc], .agg #[.int .i64 q.1.k, .int .i64 q.1.n, .int .i64 q.1.s, .string q.1.t, .slice na2 q.1.ns.length nc2, .slice ka2 q.2.list.length kc2]] W fun e w' => e = .returned (.int .i64 (nm p.1 q.1)) ∧ C w') := fun W hW => by
    have e1 : p.1.s = (p.1.s.toNat : Int) := by have := gp.s0; omega
    have e2 : q.1.s = (q.1.s.toNat : Int) := by have := gq.s0; omega
    refine (nums_r p.1 q.1 na nc ka _ kc na2 nc2 ka2 _ kc2 hwf.1 hwq.1 p.1.s.toNat e1 (by have := gp.s1; omega) q.1.s.toNat e2 (by have := gq.s1; omega) W).mono ?_
    rintro e w' ⟨rfl, hb⟩
    exact ⟨rfl, CB.out _ _ hW hb⟩
  clear hC HC b0 v1 v2 ih gp gq hwf hwq hv hv2
  rw [hp] at k1
  rw [hq] at k2
  clear hp hq
  go_enter Tryd.func10, Tryd.ntmps10
  go_wp2
  generalize hWW : World.alloc (World.alloc w _) _ = W9
  obtain rfl : w1 = W9 := by rw [← hWW, ← HW1.out]
  clear hWW HW1
  refine q_region (C := C) (by kernel_rfl) (by kernel_rfl) (CD.out _ HCw.out) ?_
  repeat (first
    | go_big_quiet_skip
    | (go_big_quiet_want
       first
       | (refine q_int (.tmp 10) rfl (w.heap.size) 0 rfl _ m1.out ?_
          simp only [Act.put, List.setIfInBounds_toArray, List.set_cons_zero, List.set_cons_succ]
          go_big_quiet_on)
       | (refine q_int (.tmp 13) rfl (w.heap.size + 1) 0 rfl _ m2.out ?_
          simp only [Act.put, List.setIfInBounds_toArray, List.set_cons_zero, List.set_cons_succ]
          go_big_quiet_on)
       | (go_big_quiet_op
          first
          | go_big_quiet_on
          | (apply Exists.intro
             refine ⟨?_, ?_⟩
             · first
               | exact k1.out
               | exact k2.out
             go_big_quiet_on))))
  refine wpQuiet_nil ?_
  clear HCw
  intro W hW
  have HCw : Hid (C W) := hW
  clear hW
  clear m1 m2 k1 k2
  obtain ⟨c0, c1, c2, c3, c4, c5⟩ := N1.out W HCw.out
  obtain ⟨e0, e1, e2, e3, e4, e5⟩ := N2.out W HCw.out
  simp only [Nat.zero_add] at c1 c2 c3 c4 c5 e1 e2 e3 e4 e5
  have hk := hN.out W HCw.out
  go_wp2_with fail
  refine hk.mono ?_
  rintro e w7 ⟨rfl, hC7⟩
  have HE : Hid (Below w.heap.size w w7) := CE.out _ hC7
  clear hk hC7
  go_wp2
  go_ret
  exact ⟨rfl, HE.out⟩
set_option maxRecDepth 8000 in
set_option maxHeartbeats 4000000 in
theorem rord_text (p q : Vt) (ih : OIh 10 p) (gp : GoodO p) (gq : GoodO q) (hwf : WfV p) (hwq : WfV q) (na : Option Addr) (nc : Nat) (ka : Option Addr) (kc : Nat) (na2 : Option Addr) (nc2 : Nat) (ka2 : Option Addr) (kc2 : Nat) (w : World) (hv : Vl w p na nc ka kc) (hv2 : Vl w q na2 nc2 ka2 kc2) (c : Int) (hc : c = 6 ∨ c = 7) (hp : clr p.1.k = c) (hq : clr q.1.k = c) :
    Calls Tryd.prog 10 #[.agg #[.int .i64 p.1.k, .int .i64 p.1.n, .int .i64 p.1.s, .string p.1.t, .slice na p.1.ns.length nc, .slice ka p.2.list.length kc], .agg #[.int .i64 q.1.k, .int .i64 q.1.n, .int .i64 q.1.s, .string q.1.t, .slice na2 q.1.ns.length nc2, .slice ka2 q.2.list.length kc2]] w fun e w' => e = .returned (.int .i64 (tx p.1.t q.1.t)) ∧ Below w.heap.size w w' := by
  obtain ⟨w1, HW1⟩ : ∃ w1, Hid (((w.alloc (.cells #[.int .i64 p.1.k, .int .i64 p.1.n, .int .i64 p.1.s, .string p.1.t, .slice na p.1.ns.length nc, .slice ka p.2.list.length kc] 34)).alloc (.cells #[.int .i64 q.1.k, .int .i64 q.1.n, .int .i64 q.1.s, .string q.1.t, .slice na2 q.1.ns.length nc2, .slice ka2 q.2.list.length kc2] 34)) = w1) := ⟨_, rfl⟩
  have b0 : Below w.heap.size w w1 := by rw [← HW1.out]; exact ((Below.refl _ _).alloc (Nat.le_refl _) _).alloc (by simp) _
  have HC : Hid (∀ W, Below w1.heap.size w1 W → Nd W w.heap.size 0 p.1 na nc ka p.2.list.length kc ∧ Nd W (w.heap.size + 1) 0 q.1 na2 nc2 ka2 q.2.list.length kc2) := fun W hb => by
    rw [← HW1.out] at hb
    have e1 : Below (w.alloc (.cells #[.int .i64 p.1.k, .int .i64 p.1.n, .int .i64 p.1.s, .string p.1.t, .slice na p.1.ns.length nc, .slice ka p.2.list.length kc] 34)).heap.size (w.alloc (.cells #[.int .i64 p.1.k, .int .i64 p.1.n, .int .i64 p.1.s, .string p.1.t, .slice na p.1.ns.length nc, .slice ka p.2.list.length kc] 34)) W := ((Below.refl _ _).alloc (Nat.le_refl _) _).trans (hb.mono (by simp))
    have g2 := box_nd hb
    have e2 : (w.alloc (.cells #[.int .i64 p.1.k, .int .i64 p.1.n, .int .i64 p.1.s, .string p.1.t, .slice na p.1.ns.length nc, .slice ka p.2.list.length kc] 34)).heap.size = w.heap.size + 1 := by simp
    rw [e2] at g2
    exact ⟨box_nd e1, g2⟩
  have v1 := hv.below b0
  have v2 := hv2.below b0
  obtain ⟨C, hC⟩ : ∃ C : World → Prop, C = fun W => Below w1.heap.size w1 W := ⟨_, rfl⟩
  have CD : Hid (∀ W, C W → C { W with drawn := W.drawn + 1 }) := fun W h => by rw [hC] at h ⊢; exact h.drew
  have CA : Hid (∀ W o, C W → C (W.alloc o)) := fun W o h => by rw [hC] at h ⊢; exact h.alloc h.size _
  have CB : Hid (∀ W W', C W → Below W.heap.size W W' → C W') := fun W W' h hb => by rw [hC] at h ⊢; exact h.trans (hb.mono h.size)
  have CE : Hid (∀ W, C W → Below w.heap.size w W) := fun W h => by rw [hC] at h; exact b0.trans (h.mono b0.size)
  have HCw : Hid (C w1) := by rw [hC]; exact Below.refl _ _
  have N1 : Hid (∀ W, C W → Nd W w.heap.size 0 p.1 na nc ka p.2.list.length kc) := fun W h => by rw [hC] at h; exact (HC.out W h).1
  have N2 : Hid (∀ W, C W → Nd W (w.heap.size + 1) 0 q.1 na2 nc2 ka2 q.2.list.length kc2) := fun W h => by rw [hC] at h; exact (HC.out W h).2
  have V1 : Hid (∀ W, C W → Vl W p na nc ka kc) := fun W h => by rw [hC] at h; exact v1.below h
  have V2 : Hid (∀ W, C W → Vl W q na2 nc2 ka2 kc2) := fun W h => by rw [hC] at h; exact v2.below h
  have hCp : ∀ p : Prop, (∀ W, C W → p) ↔ p := fun p => ⟨fun h => h _ HCw.out, fun h _ _ => h⟩
  have hkl := hwf.2.1
  have hkl2 := hwq.2.1
  have HI : Hid (OIh 10 p) := ih
  have GP : Hid (GoodO p) := gp
  have GQ : Hid (GoodO q) := gq
  have HW : Hid (WfV p) := hwf
  have HWq : Hid (WfV q) := hwq
  have m1 : Hid (∀ W, C W → W.cell? ⟨w.heap.size, 0, none⟩ = some (.int .i64 p.1.k)) := fun W h => (N1.out W h).c0
  have m2 : Hid (∀ W, C W → W.cell? ⟨w.heap.size + 1, 0, none⟩ = some (.int .i64 q.1.k)) := fun W h => (N2.out W h).c0
  have k1 : Hid (∀ W, C W → Calls Tryd.prog 17 #[.int .i64 p.1.k] W fun e w' => e = .returned (.int .i64 (clr p.1.k)) ∧ C w') := keep fun W => class46 _ W
  have k2 : Hid (∀ W, C W → Calls Tryd.prog 17 #[.int .i64 q.1.k] W fun e w' => e = .returned (.int .i64 (clr q.1.k)) ∧ C w') := keep fun W => class46 _ W
  clear hC HC b0 v1 v2 ih gp gq hwf hwq hv hv2
  rw [hp] at k1
  rw [hq] at k2
  clear hp hq
  rcases hc with rfl | rfl
  all_goals
    go_enter Tryd.func10, Tryd.ntmps10
    go_wp2
    generalize hWW : World.alloc (World.alloc w _) _ = W9
    obtain rfl : w1 = W9 := by rw [← hWW, ← HW1.out]
    clear hWW HW1
    refine q_region (C := C) (by kernel_rfl) (by kernel_rfl) (CD.out _ HCw.out) ?_
    repeat (first
      | go_big_quiet_skip
      | (go_big_quiet_want
         first
         | (refine q_int (.tmp 10) rfl (w.heap.size) 0 rfl _ m1.out ?_
            simp only [Act.put, List.setIfInBounds_toArray, List.set_cons_zero, List.set_cons_succ]
            go_big_quiet_on)
         | (refine q_int (.tmp 13) rfl (w.heap.size + 1) 0 rfl _ m2.out ?_
            simp only [Act.put, List.setIfInBounds_toArray, List.set_cons_zero, List.set_cons_succ]
            go_big_quiet_on)
         | (go_big_quiet_op
            first
            | go_big_quiet_on
            | (apply Exists.intro
               refine ⟨?_, ?_⟩
               · first
                 | exact k1.out
                 | exact k2.out
               go_big_quiet_on))))
    refine wpQuiet_nil ?_
    clear HCw
    intro W hW
    have HCw : Hid (C W) := hW
    clear hW
    clear m1 m2 k1 k2
    have c1 := (N1.out W HCw.out).c3
    have c2 := (N2.out W HCw.out).c3
    simp only [Nat.zero_add] at c1 c2
    go_wp2_with (go_at_call 20; refine (texts_tx _ _ _).mono ?_; rintro e w' ⟨rfl, rfl⟩)
    go_ret
    exact ⟨rfl, CE.out _ HCw.out⟩
set_option maxRecDepth 8000 in
set_option maxHeartbeats 4000000 in
theorem rord_list (p q : Vt) (ih : OIh 10 p) (gp : GoodO p) (gq : GoodO q) (hwf : WfV p) (hwq : WfV q) (na : Option Addr) (nc : Nat) (ka : Option Addr) (kc : Nat) (na2 : Option Addr) (nc2 : Nat) (ka2 : Option Addr) (kc2 : Nat) (w : World) (hv : Vl w p na nc ka kc) (hv2 : Vl w q na2 nc2 ka2 kc2) (c : Int) (hc : c = 1 ∨ c = 8) (hp : clr p.1.k = c) (hq : clr q.1.k = c) (nsx msx : List ByteArray) (R : Int) (hR : R = cmpF (p.2.drop 0) false (nsx.drop 0) (q.2.drop 0) (msx.drop 0)) :
    Calls Tryd.prog 10 #[.agg #[.int .i64 p.1.k, .int .i64 p.1.n, .int .i64 p.1.s, .string p.1.t, .slice na p.1.ns.length nc, .slice ka p.2.list.length kc], .agg #[.int .i64 q.1.k, .int .i64 q.1.n, .int .i64 q.1.s, .string q.1.t, .slice na2 q.1.ns.length nc2, .slice ka2 q.2.list.length kc2]] w fun e w' => e = .returned (.int .i64 (R)) ∧ Below w.heap.size w w' := by
  obtain ⟨w1, HW1⟩ : ∃ w1, Hid (((w.alloc (.cells #[.int .i64 p.1.k, .int .i64 p.1.n, .int .i64 p.1.s, .string p.1.t, .slice na p.1.ns.length nc, .slice ka p.2.list.length kc] 34)).alloc (.cells #[.int .i64 q.1.k, .int .i64 q.1.n, .int .i64 q.1.s, .string q.1.t, .slice na2 q.1.ns.length nc2, .slice ka2 q.2.list.length kc2] 34)) = w1) := ⟨_, rfl⟩
  have b0 : Below w.heap.size w w1 := by rw [← HW1.out]; exact ((Below.refl _ _).alloc (Nat.le_refl _) _).alloc (by simp) _
  have HC : Hid (∀ W, Below w1.heap.size w1 W → Nd W w.heap.size 0 p.1 na nc ka p.2.list.length kc ∧ Nd W (w.heap.size + 1) 0 q.1 na2 nc2 ka2 q.2.list.length kc2) := fun W hb => by
    rw [← HW1.out] at hb
    have e1 : Below (w.alloc (.cells #[.int .i64 p.1.k, .int .i64 p.1.n, .int .i64 p.1.s, .string p.1.t, .slice na p.1.ns.length nc, .slice ka p.2.list.length kc] 34)).heap.size (w.alloc (.cells #[.int .i64 p.1.k, .int .i64 p.1.n, .int .i64 p.1.s, .string p.1.t, .slice na p.1.ns.length nc, .slice ka p.2.list.length kc] 34)) W := ((Below.refl _ _).alloc (Nat.le_refl _) _).trans (hb.mono (by simp))
    have g2 := box_nd hb
    have e2 : (w.alloc (.cells #[.int .i64 p.1.k, .int .i64 p.1.n, .int .i64 p.1.s, .string p.1.t, .slice na p.1.ns.length nc, .slice ka p.2.list.length kc] 34)).heap.size = w.heap.size + 1 := by simp
    rw [e2] at g2
    exact ⟨box_nd e1, g2⟩
  have v1 := hv.below b0
  have v2 := hv2.below b0
  obtain ⟨C, hC⟩ : ∃ C : World → Prop, C = fun W => Below w1.heap.size w1 W := ⟨_, rfl⟩
  have CD : Hid (∀ W, C W → C { W with drawn := W.drawn + 1 }) := fun W h => by rw [hC] at h ⊢; exact h.drew
  have CA : Hid (∀ W o, C W → C (W.alloc o)) := fun W o h => by rw [hC] at h ⊢; exact h.alloc h.size _
  have CB : Hid (∀ W W', C W → Below W.heap.size W W' → C W') := fun W W' h hb => by rw [hC] at h ⊢; exact h.trans (hb.mono h.size)
  have CE : Hid (∀ W, C W → Below w.heap.size w W) := fun W h => by rw [hC] at h; exact b0.trans (h.mono b0.size)
  have HCw : Hid (C w1) := by rw [hC]; exact Below.refl _ _
  have N1 : Hid (∀ W, C W → Nd W w.heap.size 0 p.1 na nc ka p.2.list.length kc) := fun W h => by rw [hC] at h; exact (HC.out W h).1
  have N2 : Hid (∀ W, C W → Nd W (w.heap.size + 1) 0 q.1 na2 nc2 ka2 q.2.list.length kc2) := fun W h => by rw [hC] at h; exact (HC.out W h).2
  have V1 : Hid (∀ W, C W → Vl W p na nc ka kc) := fun W h => by rw [hC] at h; exact v1.below h
  have V2 : Hid (∀ W, C W → Vl W q na2 nc2 ka2 kc2) := fun W h => by rw [hC] at h; exact v2.below h
  have hCp : ∀ p : Prop, (∀ W, C W → p) ↔ p := fun p => ⟨fun h => h _ HCw.out, fun h _ _ => h⟩
  have hkl := hwf.2.1
  have hkl2 := hwq.2.1
  have HI : Hid (OIh 10 p) := ih
  have GP : Hid (GoodO p) := gp
  have GQ : Hid (GoodO q) := gq
  have HW : Hid (WfV p) := hwf
  have HWq : Hid (WfV q) := hwq
  have m1 : Hid (∀ W, C W → W.cell? ⟨w.heap.size, 0, none⟩ = some (.int .i64 p.1.k)) := fun W h => (N1.out W h).c0
  have m2 : Hid (∀ W, C W → W.cell? ⟨w.heap.size + 1, 0, none⟩ = some (.int .i64 q.1.k)) := fun W h => (N2.out W h).c0
  have k1 : Hid (∀ W, C W → Calls Tryd.prog 17 #[.int .i64 p.1.k] W fun e w' => e = .returned (.int .i64 (clr p.1.k)) ∧ C w') := keep fun W => class46 _ W
  have k2 : Hid (∀ W, C W → Calls Tryd.prog 17 #[.int .i64 q.1.k] W fun e w' => e = .returned (.int .i64 (clr q.1.k)) ∧ C w') := keep fun W => class46 _ W
  have KP : Hid (∀ k p', p.2.list[k]? = some p' → ∃ b o, ka = some ⟨b, o, none⟩ ∧ ∃ na' nc' ka' kc', (∀ W, C W → Nd W b (o + k * 6) p'.1 na' nc' ka' p'.2.list.length kc') ∧ ∀ W, C W → Vl W p' na' nc' ka' kc') := fun k p' hp' => by
    obtain ⟨b, o, e, na', nc', ka', kc', hnd, hvl⟩ := v1.slc.get hp'
    exact ⟨b, o, e, na', nc', ka', kc', fun W h => by rw [hC] at h; exact hnd.below h, fun W h => by rw [hC] at h; exact hvl.below h⟩
  have KQ : Hid (∀ k p', q.2.list[k]? = some p' → ∃ b o, ka2 = some ⟨b, o, none⟩ ∧ ∃ na' nc' ka' kc', (∀ W, C W → Nd W b (o + k * 6) p'.1 na' nc' ka' p'.2.list.length kc') ∧ ∀ W, C W → Vl W p' na' nc' ka' kc') := fun k p' hp' => by
    obtain ⟨b, o, e, na', nc', ka', kc', hnd, hvl⟩ := v2.slc.get hp'
    exact ⟨b, o, e, na', nc', ka', kc', fun W h => by rw [hC] at h; exact hnd.below h, fun W h => by rw [hC] at h; exact hvl.below h⟩
  have HR : Hid (R = cmpF (p.2.drop 0) false (nsx.drop 0) (q.2.drop 0) (msx.drop 0)) := hR
  clear hR
  clear hC HC b0 v1 v2 ih gp gq hwf hwq hv hv2
  rw [hp] at k1
  rw [hq] at k2
  clear hp hq
  rcases hc with rfl | rfl
  all_goals
    go_enter Tryd.func10, Tryd.ntmps10
    go_wp2
    generalize hWW : World.alloc (World.alloc w _) _ = W9
    obtain rfl : w1 = W9 := by rw [← hWW, ← HW1.out]
    clear hWW HW1
    refine q_region (C := C) (by kernel_rfl) (by kernel_rfl) (CD.out _ HCw.out) ?_
    repeat (first
      | go_big_quiet_skip
      | (go_big_quiet_want
         first
         | (refine q_int (.tmp 10) rfl (w.heap.size) 0 rfl _ m1.out ?_
            simp only [Act.put, List.setIfInBounds_toArray, List.set_cons_zero, List.set_cons_succ]
            go_big_quiet_on)
         | (refine q_int (.tmp 13) rfl (w.heap.size + 1) 0 rfl _ m2.out ?_
            simp only [Act.put, List.setIfInBounds_toArray, List.set_cons_zero, List.set_cons_succ]
            go_big_quiet_on)
         | (go_big_quiet_op
            first
            | go_big_quiet_on
            | (apply Exists.intro
               refine ⟨?_, ?_⟩
               · first
                 | exact k1.out
                 | exact k2.out
               go_big_quiet_on))))
    refine wpQuiet_nil ?_
    clear HCw
    intro W hW
    have HCw : Hid (C W) := hW
    clear hW
    clear m1 m2 k1 k2
    go_wp2
    go_loopw [7, 8, 9] (fun i _ _ wr => ∃ k : Nat, k ≤ p.2.list.length ∧ k ≤ q.2.list.length ∧ i = .int .i64 (k : Int) ∧ Hid (C wr) ∧ Hid (R = cmpF (p.2.drop k) false (nsx.drop k) (q.2.drop k) (msx.drop k))) (fun i _ _ _ => p.2.list.length - (intOf i).toNat)
    case atStart => exact ⟨0, by omega, by omega, rfl, HCw.out, HR.out⟩
    case round =>
      clear HCw
      obtain ⟨k, hk0, hk1, rfl, HCw, HRk⟩ := hrel
      have c5 := (N1.out wr HCw.out).c5
      have e5 := (N2.out wr HCw.out).c5
      simp only [Nat.zero_add] at c5 e5
      by_cases h12 : k < p.2.list.length ∧ k < q.2.list.length
      case neg =>
        have HF : Hid (R = sg (p.2.list.length : Int) (q.2.list.length : Int)) := HRk.out.trans (cmpF_end hk0 hk1 (by omega))
        by_cases h1 : k < p.2.list.length
        · have h2 : ¬ k < q.2.list.length := fun e => h12 ⟨h1, e⟩
          go_wp2_with (go_at_call 18; refine (sign47 _ _ _).mono ?_; rintro e w' ⟨rfl, rfl⟩)
          go_ret
          exact ⟨ret_num HF.out.symm, CE.out _ HCw.out⟩
        · go_wp2_with (go_at_call 18; refine (sign47 _ _ _).mono ?_; rintro e w' ⟨rfl, rfl⟩)
          go_ret
          exact ⟨ret_num HF.out.symm, CE.out _ HCw.out⟩
      obtain ⟨h1, h2⟩ := h12
      obtain ⟨p', hp'⟩ : ∃ p', p.2.list[k]? = some p' := ⟨_, List.getElem?_eq_getElem h1⟩
      obtain ⟨q', hq'⟩ : ∃ q', q.2.list[k]? = some q' := ⟨_, List.getElem?_eq_getElem h2⟩
      obtain ⟨d1, hd1⟩ := GP.out.kids p' (List.mem_of_getElem? hp')
      obtain ⟨d2, hd2⟩ := GQ.out.kids q' (List.mem_of_getElem? hq')
      obtain ⟨b, o, rfl, na', nc', ka', kc', hnd, hvl⟩ := KP.out k p' hp'
      obtain ⟨b2, o2, rfl, na3, nc3, ka3, kc3, hnd2, hvl2⟩ := KQ.out k q' hq'
      have k1 : Hid (∀ W, C W → Calls Tryd.prog 10 #[.agg #[.int .i64 p'.1.k, .int .i64 p'.1.n, .int .i64 p'.1.s, .string p'.1.t, .slice na' p'.1.ns.length nc', .slice ka' p'.2.list.length kc'], .agg #[.int .i64 q'.1.k, .int .i64 q'.1.n, .int .i64 q'.1.s, .string q'.1.t, .slice na3 q'.1.ns.length nc3, .slice ka3 q'.2.list.length kc3]] W fun e w' => e = .returned (.int .i64 (ordV p' q')) ∧ C w') := fun W hW => by
        refine (HI.out p' (wt_kid (List.mem_of_getElem? hp')) (good_of hd1) (HW.out.kid (List.mem_of_getElem? hp')) q' (good_of hd2) (HWq.out.kid (List.mem_of_getElem? hq')) na' nc' ka' kc' na3 nc3 ka3 kc3 W (hvl W hW) (hvl2 W hW)).mono ?_
        rintro e w' ⟨rfl, hb⟩
        exact ⟨rfl, CB.out _ _ hW hb⟩
      have n1 : Hid (∀ W, C W → Nd W b (o + k * 6) p'.1 na' nc' ka' p'.2.list.length kc') := hnd
      have n2 : Hid (∀ W, C W → Nd W b2 (o2 + k * 6) q'.1 na3 nc3 ka3 q'.2.list.length kc3) := hnd2
      have s1 : Hid (∀ W, C W → W.cell? ⟨w.heap.size, 5, none⟩ = some (.slice (some ⟨b, o, none⟩) p.2.list.length kc)) := fun W h => (N1.out W h).c5
      have s2 : Hid (∀ W, C W → W.cell? ⟨w.heap.size + 1, 5, none⟩ = some (.slice (some ⟨b2, o2, none⟩) q.2.list.length kc2)) := fun W h => (N2.out W h).c5
      have HS : Hid (R = if ordV p' q' ≠ 0 then ordV p' q' else cmpF (p.2.drop (k + 1)) false (nsx.drop (k + 1)) (q.2.drop (k + 1)) (msx.drop (k + 1))) := by
        show _ = _
        rw [HRk.out, cmpF_step hp' hq']
        simp
      clear hnd hnd2 hvl hvl2 hd1 hd2 HRk hp' hq'
      generalize ordV p' q' = E at *
      go_wp2
      refine q_region (C := C) (by kernel_rfl) (by kernel_rfl) (CD.out _ HCw.out) ?_
      repeat (first
        | go_big_quiet_skip
        | (go_big_quiet_want
           first
           | (refine q_slice 22 (.tmp 74) rfl w.heap.size 5 rfl _ _ _ (by simp) s1.out ?_
              simp only [Act.put, List.setIfInBounds_toArray, List.set_cons_zero, List.set_cons_succ]
              go_big_quiet_on)
           | (refine q_slice 22 (.tmp 79) rfl (w.heap.size + 1) 5 rfl _ _ _ (by simp) s2.out ?_
              simp only [Act.put, List.setIfInBounds_toArray, List.set_cons_zero, List.set_cons_succ]
              go_big_quiet_on)
           | (refine q_val (.tmp 77) rfl b (o + k * 6) rfl _ _ _ _ _ _ n1.out ?_
              simp only [Act.put, List.setIfInBounds_toArray, List.set_cons_zero, List.set_cons_succ]
              go_big_quiet_on)
           | (refine q_val (.tmp 82) rfl b2 (o2 + k * 6) rfl _ _ _ _ _ _ n2.out ?_
              simp only [Act.put, List.setIfInBounds_toArray, List.set_cons_zero, List.set_cons_succ]
              go_big_quiet_on)
           | (go_big_quiet_op
              first
              | go_big_quiet_on
              | (apply Exists.intro
                 refine ⟨?_, ?_⟩
                 · first
                   | exact k1.out
                 go_big_quiet_on))))
      refine wpQuiet_nil ?_
      clear HCw
      intro W hW
      have HCw : Hid (C W) := hW
      clear hW
      by_cases hE : E = 0
      · subst hE
        go_wp2
        go_roundw
        case rel => exact ⟨k + 1, by omega, by omega, by go_num, HCw.out, show R = _ by simpa using HS.out⟩
        case measure => simp [intOf]; omega
      · go_wp2
        go_ret
        exact ⟨ret_num (by rw [HS.out, if_pos hE]), CE.out _ HCw.out⟩
set_option maxRecDepth 8000 in
set_option maxHeartbeats 4000000 in
theorem rord_struct (p q : Vt) (ih : OIh 10 p) (gp : GoodO p) (gq : GoodO q) (hwf : WfV p) (hwq : WfV q) (na : Option Addr) (nc : Nat) (ka : Option Addr) (kc : Nat) (na2 : Option Addr) (nc2 : Nat) (ka2 : Option Addr) (kc2 : Nat) (w : World) (hv : Vl w p na nc ka kc) (hv2 : Vl w q na2 nc2 ka2 kc2) (c : Int) (hc : c = 9) (hp : clr p.1.k = c) (hq : clr q.1.k = c) (nsx msx : List ByteArray) (R : Int) (h9 : p.1.k = 9 ∧ q.1.k = 9) (hns : nsx = p.1.ns ∧ msx = q.1.ns) (hR : R = cmpF (p.2.drop 0) true (nsx.drop 0) (q.2.drop 0) (msx.drop 0)) :
    Calls Tryd.prog 10 #[.agg #[.int .i64 p.1.k, .int .i64 p.1.n, .int .i64 p.1.s, .string p.1.t, .slice na p.1.ns.length nc, .slice ka p.2.list.length kc], .agg #[.int .i64 q.1.k, .int .i64 q.1.n, .int .i64 q.1.s, .string q.1.t, .slice na2 q.1.ns.length nc2, .slice ka2 q.2.list.length kc2]] w fun e w' => e = .returned (.int .i64 (R)) ∧ Below w.heap.size w w' := by
  obtain ⟨w1, HW1⟩ : ∃ w1, Hid (((w.alloc (.cells #[.int .i64 p.1.k, .int .i64 p.1.n, .int .i64 p.1.s, .string p.1.t, .slice na p.1.ns.length nc, .slice ka p.2.list.length kc] 34)).alloc (.cells #[.int .i64 q.1.k, .int .i64 q.1.n, .int .i64 q.1.s, .string q.1.t, .slice na2 q.1.ns.length nc2, .slice ka2 q.2.list.length kc2] 34)) = w1) := ⟨_, rfl⟩
  have b0 : Below w.heap.size w w1 := by rw [← HW1.out]; exact ((Below.refl _ _).alloc (Nat.le_refl _) _).alloc (by simp) _
  have HC : Hid (∀ W, Below w1.heap.size w1 W → Nd W w.heap.size 0 p.1 na nc ka p.2.list.length kc ∧ Nd W (w.heap.size + 1) 0 q.1 na2 nc2 ka2 q.2.list.length kc2) := fun W hb => by
    rw [← HW1.out] at hb
    have e1 : Below (w.alloc (.cells #[.int .i64 p.1.k, .int .i64 p.1.n, .int .i64 p.1.s, .string p.1.t, .slice na p.1.ns.length nc, .slice ka p.2.list.length kc] 34)).heap.size (w.alloc (.cells #[.int .i64 p.1.k, .int .i64 p.1.n, .int .i64 p.1.s, .string p.1.t, .slice na p.1.ns.length nc, .slice ka p.2.list.length kc] 34)) W := ((Below.refl _ _).alloc (Nat.le_refl _) _).trans (hb.mono (by simp))
    have g2 := box_nd hb
    have e2 : (w.alloc (.cells #[.int .i64 p.1.k, .int .i64 p.1.n, .int .i64 p.1.s, .string p.1.t, .slice na p.1.ns.length nc, .slice ka p.2.list.length kc] 34)).heap.size = w.heap.size + 1 := by simp
    rw [e2] at g2
    exact ⟨box_nd e1, g2⟩
  have v1 := hv.below b0
  have v2 := hv2.below b0
  obtain ⟨C, hC⟩ : ∃ C : World → Prop, C = fun W => Below w1.heap.size w1 W := ⟨_, rfl⟩
  have CD : Hid (∀ W, C W → C { W with drawn := W.drawn + 1 }) := fun W h => by rw [hC] at h ⊢; exact h.drew
  have CA : Hid (∀ W o, C W → C (W.alloc o)) := fun W o h => by rw [hC] at h ⊢; exact h.alloc h.size _
  have CB : Hid (∀ W W', C W → Below W.heap.size W W' → C W') := fun W W' h hb => by rw [hC] at h ⊢; exact h.trans (hb.mono h.size)
  have CE : Hid (∀ W, C W → Below w.heap.size w W) := fun W h => by rw [hC] at h; exact b0.trans (h.mono b0.size)
  have HCw : Hid (C w1) := by rw [hC]; exact Below.refl _ _
  have N1 : Hid (∀ W, C W → Nd W w.heap.size 0 p.1 na nc ka p.2.list.length kc) := fun W h => by rw [hC] at h; exact (HC.out W h).1
  have N2 : Hid (∀ W, C W → Nd W (w.heap.size + 1) 0 q.1 na2 nc2 ka2 q.2.list.length kc2) := fun W h => by rw [hC] at h; exact (HC.out W h).2
  have V1 : Hid (∀ W, C W → Vl W p na nc ka kc) := fun W h => by rw [hC] at h; exact v1.below h
  have V2 : Hid (∀ W, C W → Vl W q na2 nc2 ka2 kc2) := fun W h => by rw [hC] at h; exact v2.below h
  have hCp : ∀ p : Prop, (∀ W, C W → p) ↔ p := fun p => ⟨fun h => h _ HCw.out, fun h _ _ => h⟩
  have hkl := hwf.2.1
  have hkl2 := hwq.2.1
  have HI : Hid (OIh 10 p) := ih
  have GP : Hid (GoodO p) := gp
  have GQ : Hid (GoodO q) := gq
  have HW : Hid (WfV p) := hwf
  have HWq : Hid (WfV q) := hwq
  have m1 : Hid (∀ W, C W → W.cell? ⟨w.heap.size, 0, none⟩ = some (.int .i64 p.1.k)) := fun W h => (N1.out W h).c0
  have m2 : Hid (∀ W, C W → W.cell? ⟨w.heap.size + 1, 0, none⟩ = some (.int .i64 q.1.k)) := fun W h => (N2.out W h).c0
  have k1 : Hid (∀ W, C W → Calls Tryd.prog 17 #[.int .i64 p.1.k] W fun e w' => e = .returned (.int .i64 (clr p.1.k)) ∧ C w') := keep fun W => class46 _ W
  have k2 : Hid (∀ W, C W → Calls Tryd.prog 17 #[.int .i64 q.1.k] W fun e w' => e = .returned (.int .i64 (clr q.1.k)) ∧ C w') := keep fun W => class46 _ W
  have KP : Hid (∀ k p', p.2.list[k]? = some p' → ∃ b o, ka = some ⟨b, o, none⟩ ∧ ∃ na' nc' ka' kc', (∀ W, C W → Nd W b (o + k * 6) p'.1 na' nc' ka' p'.2.list.length kc') ∧ ∀ W, C W → Vl W p' na' nc' ka' kc') := fun k p' hp' => by
    obtain ⟨b, o, e, na', nc', ka', kc', hnd, hvl⟩ := v1.slc.get hp'
    exact ⟨b, o, e, na', nc', ka', kc', fun W h => by rw [hC] at h; exact hnd.below h, fun W h => by rw [hC] at h; exact hvl.below h⟩
  have KQ : Hid (∀ k p', q.2.list[k]? = some p' → ∃ b o, ka2 = some ⟨b, o, none⟩ ∧ ∃ na' nc' ka' kc', (∀ W, C W → Nd W b (o + k * 6) p'.1 na' nc' ka' p'.2.list.length kc') ∧ ∀ W, C W → Vl W p' na' nc' ka' kc') := fun k p' hp' => by
    obtain ⟨b, o, e, na', nc', ka', kc', hnd, hvl⟩ := v2.slc.get hp'
    exact ⟨b, o, e, na', nc', ka', kc', fun W h => by rw [hC] at h; exact hnd.below h, fun W h => by rw [hC] at h; exact hvl.below h⟩
  have HR : Hid (R = cmpF (p.2.drop 0) true (nsx.drop 0) (q.2.drop 0) (msx.drop 0)) := hR
  have HK9 : Hid (p.1.k = 9 ∧ q.1.k = 9) := h9
  have HNS : Hid (nsx = p.1.ns ∧ msx = q.1.ns) := hns
  clear h9 hns
  clear hR
  clear hC HC b0 v1 v2 ih gp gq hwf hwq hv hv2
  rw [hp] at k1
  rw [hq] at k2
  clear hp hq
  subst hc
  go_enter Tryd.func10, Tryd.ntmps10
  go_wp2
  generalize hWW : World.alloc (World.alloc w _) _ = W9
  obtain rfl : w1 = W9 := by rw [← hWW, ← HW1.out]
  clear hWW HW1
  refine q_region (C := C) (by kernel_rfl) (by kernel_rfl) (CD.out _ HCw.out) ?_
  repeat (first
    | go_big_quiet_skip
    | (go_big_quiet_want
       first
       | (refine q_int (.tmp 10) rfl (w.heap.size) 0 rfl _ m1.out ?_
          simp only [Act.put, List.setIfInBounds_toArray, List.set_cons_zero, List.set_cons_succ]
          go_big_quiet_on)
       | (refine q_int (.tmp 13) rfl (w.heap.size + 1) 0 rfl _ m2.out ?_
          simp only [Act.put, List.setIfInBounds_toArray, List.set_cons_zero, List.set_cons_succ]
          go_big_quiet_on)
       | (go_big_quiet_op
          first
          | go_big_quiet_on
          | (apply Exists.intro
             refine ⟨?_, ?_⟩
             · first
               | exact k1.out
               | exact k2.out
             go_big_quiet_on))))
  refine wpQuiet_nil ?_
  clear HCw
  intro W hW
  have HCw : Hid (C W) := hW
  clear hW
  clear m1 m2 k1 k2
  go_wp2
  go_loopw [7, 8, 9] (fun i _ _ wr => ∃ k : Nat, k ≤ p.2.list.length ∧ k ≤ q.2.list.length ∧ i = .int .i64 (k : Int) ∧ Hid (C wr) ∧ Hid (R = cmpF (p.2.drop k) true (nsx.drop k) (q.2.drop k) (msx.drop k))) (fun i _ _ _ => p.2.list.length - (intOf i).toNat)
  case atStart => exact ⟨0, by omega, by omega, rfl, HCw.out, HR.out⟩
  case round =>
    clear HCw
    obtain ⟨k, hk0, hk1, rfl, HCw, HRk⟩ := hrel
    have c5 := (N1.out wr HCw.out).c5
    have e5 := (N2.out wr HCw.out).c5
    simp only [Nat.zero_add] at c5 e5
    by_cases h12 : k < p.2.list.length ∧ k < q.2.list.length
    case neg =>
      have HF : Hid (R = sg (p.2.list.length : Int) (q.2.list.length : Int)) := HRk.out.trans (cmpF_end hk0 hk1 (by omega))
      by_cases h1 : k < p.2.list.length
      · have h2 : ¬ k < q.2.list.length := fun e => h12 ⟨h1, e⟩
        go_wp2_with (go_at_call 18; refine (sign47 _ _ _).mono ?_; rintro e w' ⟨rfl, rfl⟩)
        go_ret
        exact ⟨ret_num HF.out.symm, CE.out _ HCw.out⟩
      · go_wp2_with (go_at_call 18; refine (sign47 _ _ _).mono ?_; rintro e w' ⟨rfl, rfl⟩)
        go_ret
        exact ⟨ret_num HF.out.symm, CE.out _ HCw.out⟩
    obtain ⟨h1, h2⟩ := h12
    obtain ⟨p', hp'⟩ : ∃ p', p.2.list[k]? = some p' := ⟨_, List.getElem?_eq_getElem h1⟩
    obtain ⟨q', hq'⟩ : ∃ q', q.2.list[k]? = some q' := ⟨_, List.getElem?_eq_getElem h2⟩
    obtain ⟨d1, hd1⟩ := GP.out.kids p' (List.mem_of_getElem? hp')
    obtain ⟨d2, hd2⟩ := GQ.out.kids q' (List.mem_of_getElem? hq')
    obtain ⟨b, o, rfl, na', nc', ka', kc', hnd, hvl⟩ := KP.out k p' hp'
    obtain ⟨b2, o2, rfl, na3, nc3, ka3, kc3, hnd2, hvl2⟩ := KQ.out k q' hq'
    have k1 : Hid (∀ W, C W → Calls Tryd.prog 10 #[.agg #[.int .i64 p'.1.k, .int .i64 p'.1.n, .int .i64 p'.1.s, .string p'.1.t, .slice na' p'.1.ns.length nc', .slice ka' p'.2.list.length kc'], .agg #[.int .i64 q'.1.k, .int .i64 q'.1.n, .int .i64 q'.1.s, .string q'.1.t, .slice na3 q'.1.ns.length nc3, .slice ka3 q'.2.list.length kc3]] W fun e w' => e = .returned (.int .i64 (ordV p' q')) ∧ C w') := fun W hW => by
      refine (HI.out p' (wt_kid (List.mem_of_getElem? hp')) (good_of hd1) (HW.out.kid (List.mem_of_getElem? hp')) q' (good_of hd2) (HWq.out.kid (List.mem_of_getElem? hq')) na' nc' ka' kc' na3 nc3 ka3 kc3 W (hvl W hW) (hvl2 W hW)).mono ?_
      rintro e w' ⟨rfl, hb⟩
      exact ⟨rfl, CB.out _ _ hW hb⟩
    have n1 : Hid (∀ W, C W → Nd W b (o + k * 6) p'.1 na' nc' ka' p'.2.list.length kc') := hnd
    have n2 : Hid (∀ W, C W → Nd W b2 (o2 + k * 6) q'.1 na3 nc3 ka3 q'.2.list.length kc3) := hnd2
    have s1 : Hid (∀ W, C W → W.cell? ⟨w.heap.size, 5, none⟩ = some (.slice (some ⟨b, o, none⟩) p.2.list.length kc)) := fun W h => (N1.out W h).c5
    have s2 : Hid (∀ W, C W → W.cell? ⟨w.heap.size + 1, 5, none⟩ = some (.slice (some ⟨b2, o2, none⟩) q.2.list.length kc2)) := fun W h => (N2.out W h).c5
    have HP : Hid (p.1.ns.length = p.2.list.length) := GP.out.ns HK9.out.1
    have HQ : Hid (q.1.ns.length = q.2.list.length) := GQ.out.ns HK9.out.2
    obtain ⟨x, hx⟩ : ∃ x, p.1.ns[k]? = some x := ⟨_, List.getElem?_eq_getElem (by rw [HP.out]; exact h1)⟩
    obtain ⟨y, hy⟩ : ∃ y, q.1.ns[k]? = some y := ⟨_, List.getElem?_eq_getElem (by rw [HQ.out]; exact h2)⟩
    obtain ⟨bn, on, rfl, hcx⟩ : ∃ b o, na = some ⟨b, o, none⟩ ∧ ∀ W, C W → W.cell? ⟨b, o + k, none⟩ = some (.string x) := by
      rcases (V1.out wr HCw.out).nms with e | ⟨b, o, e, _⟩
      · rw [e] at hx; simp at hx
      · refine ⟨b, o, e, fun W hW => ?_⟩
        rcases (V1.out W hW).nms with e2 | ⟨b', o', e2, hc⟩
        · rw [e2] at hx; simp at hx
        · rw [e] at e2
          injection e2 with e2
          injection e2 with e3 e4
          subst e3 e4
          exact hc k x hx
    obtain ⟨bm, om, rfl, hcy⟩ : ∃ b o, na2 = some ⟨b, o, none⟩ ∧ ∀ W, C W → W.cell? ⟨b, o + k, none⟩ = some (.string y) := by
      rcases (V2.out wr HCw.out).nms with e | ⟨b, o, e, _⟩
      · rw [e] at hy; simp at hy
      · refine ⟨b, o, e, fun W hW => ?_⟩
        rcases (V2.out W hW).nms with e2 | ⟨b', o', e2, hc⟩
        · rw [e2] at hy; simp at hy
        · rw [e] at e2
          injection e2 with e2
          injection e2 with e3 e4
          subst e3 e4
          exact hc k y hy
    have HX : Hid (∀ W, C W → W.cell? ⟨bn, on + k, none⟩ = some (.string x)) := hcx
    have HY : Hid (∀ W, C W → W.cell? ⟨bm, om + k, none⟩ = some (.string y)) := hcy
    have r1 : Hid (∀ W, C W → W.cell? ⟨w.heap.size, 4, none⟩ = some (.slice (some ⟨bn, on, none⟩) p.2.list.length nc)) := fun W h => by rw [← HP.out]; exact (N1.out W h).c4
    have r2 : Hid (∀ W, C W → W.cell? ⟨w.heap.size + 1, 4, none⟩ = some (.slice (some ⟨bm, om, none⟩) q.2.list.length nc2)) := fun W h => by rw [← HQ.out]; exact (N2.out W h).c4
    have HNx : Hid (nameAt (nsx.drop k) = x ∧ nameAt (msx.drop k) = y) := by
      obtain ⟨e1, e2⟩ := HNS.out
      rw [e1, e2]
      have g1 : (p.1.ns.drop k).head? = some x := by rw [List.head?_drop, hx]
      have g2 : (q.1.ns.drop k).head? = some y := by rw [List.head?_drop, hy]
      exact ⟨by simp [nameAt, List.headD_eq_head?_getD, g1], by simp [nameAt, List.headD_eq_head?_getD, g2]⟩
    have kt : Hid (∀ W, C W → Calls Tryd.prog 20 #[.string x, .string y] W fun e w' => e = .returned (.int .i64 (tx x y)) ∧ C w') := keep fun W => texts_tx _ _ W
    have HSx : Hid (R = if tx x y ≠ 0 then tx x y else if ordV p' q' ≠ 0 then ordV p' q' else cmpF (p.2.drop (k + 1)) true (nsx.drop (k + 1)) (q.2.drop (k + 1)) (msx.drop (k + 1))) := by
      show _ = _
      rw [HRk.out, cmpF_step hp' hq', HNx.out.1, HNx.out.2]
      simp
    clear hx hy hcx hcy HNx
    clear hnd hnd2 hvl hvl2 hd1 hd2 HRk hp' hq'
    generalize ordV p' q' = E at *
    generalize tx x y = Tx at *
    clear c5 e5
    have c5 := (N1.out wr HCw.out).c5
    have e5 := (N2.out wr HCw.out).c5
    simp only [Nat.zero_add] at c5 e5
    go_wp2
    refine q_region (C := C) (by kernel_rfl) (by kernel_rfl) (CD.out _ HCw.out) ?_
    repeat (first
      | go_big_quiet_skip
      | (go_big_quiet_want
         first
         | (refine q_slice 32 (.tmp 60) rfl w.heap.size 4 rfl _ _ _ (by simp) r1.out ?_
            simp only [Act.put, List.setIfInBounds_toArray, List.set_cons_zero, List.set_cons_succ]
            go_big_quiet_on)
         | (refine q_slice 32 (.tmp 65) rfl (w.heap.size + 1) 4 rfl _ _ _ (by simp) r2.out ?_
            simp only [Act.put, List.setIfInBounds_toArray, List.set_cons_zero, List.set_cons_succ]
            go_big_quiet_on)
         | (refine q_str (.tmp 63) rfl bn (on + k) rfl _ HX.out ?_
            simp only [Act.put, List.setIfInBounds_toArray, List.set_cons_zero, List.set_cons_succ]
            go_big_quiet_on)
         | (refine q_str (.tmp 68) rfl bm (om + k) rfl _ HY.out ?_
            simp only [Act.put, List.setIfInBounds_toArray, List.set_cons_zero, List.set_cons_succ]
            go_big_quiet_on)
         | (go_big_quiet_op
            first
            | go_big_quiet_on
            | (apply Exists.intro
               refine ⟨?_, ?_⟩
               · first
                 | exact kt.out
               go_big_quiet_on))))
    refine wpQuiet_nil ?_
    clear HCw
    intro W hW
    have HCw : Hid (C W) := hW
    clear hW
    by_cases hTx : Tx = 0
    case neg =>
      go_wp2
      go_ret
      exact ⟨ret_num (by rw [HSx.out, if_pos hTx]), CE.out _ HCw.out⟩
    have HS : Hid (R = if E ≠ 0 then E else cmpF (p.2.drop (k + 1)) true (nsx.drop (k + 1)) (q.2.drop (k + 1)) (msx.drop (k + 1))) := by
      show _ = _
      rw [HSx.out, if_neg (by simp [hTx])]
    clear HSx kt HX HY r1 r2
    go_wp2
    refine q_region (C := C) (by kernel_rfl) (by kernel_rfl) (CD.out _ HCw.out) ?_
    repeat (first
      | go_big_quiet_skip
      | (go_big_quiet_want
         first
         | (refine q_slice 22 (.tmp 74) rfl w.heap.size 5 rfl _ _ _ (by simp) s1.out ?_
            simp only [Act.put, List.setIfInBounds_toArray, List.set_cons_zero, List.set_cons_succ]
            go_big_quiet_on)
         | (refine q_slice 22 (.tmp 79) rfl (w.heap.size + 1) 5 rfl _ _ _ (by simp) s2.out ?_
            simp only [Act.put, List.setIfInBounds_toArray, List.set_cons_zero, List.set_cons_succ]
            go_big_quiet_on)
         | (refine q_val (.tmp 77) rfl b (o + k * 6) rfl _ _ _ _ _ _ n1.out ?_
            simp only [Act.put, List.setIfInBounds_toArray, List.set_cons_zero, List.set_cons_succ]
            go_big_quiet_on)
         | (refine q_val (.tmp 82) rfl b2 (o2 + k * 6) rfl _ _ _ _ _ _ n2.out ?_
            simp only [Act.put, List.setIfInBounds_toArray, List.set_cons_zero, List.set_cons_succ]
            go_big_quiet_on)
         | (go_big_quiet_op
            first
            | go_big_quiet_on
            | (apply Exists.intro
               refine ⟨?_, ?_⟩
               · first
                 | exact k1.out
               go_big_quiet_on))))
    refine wpQuiet_nil ?_
    clear HCw
    intro W hW
    have HCw : Hid (C W) := hW
    clear hW
    by_cases hE : E = 0
    · subst hE
      go_wp2
      go_roundw
      case rel => exact ⟨k + 1, by omega, by omega, by go_num, HCw.out, show R = _ by simpa using HS.out⟩
      case measure => simp [intOf]; omega
    · go_wp2
      go_ret
      exact ⟨ret_num (by rw [HS.out, if_pos hE]), CE.out _ HCw.out⟩
theorem rorder_any : ∀ (N : Nat) (p : Vt), wt p ≤ N → GoodO p → WfV p → ∀ q : Vt, GoodO q → WfV q → ∀ (na : Option Addr) (nc : Nat) (ka : Option Addr) (kc : Nat) (na2 : Option Addr) (nc2 : Nat) (ka2 : Option Addr) (kc2 : Nat) (W : World), Vl W p na nc ka kc → Vl W q na2 nc2 ka2 kc2 →
    Calls Tryd.prog 10 #[.agg #[.int .i64 p.1.k, .int .i64 p.1.n, .int .i64 p.1.s, .string p.1.t, .slice na p.1.ns.length nc, .slice ka p.2.list.length kc], .agg #[.int .i64 q.1.k, .int .i64 q.1.n, .int .i64 q.1.s, .string q.1.t, .slice na2 q.1.ns.length nc2, .slice ka2 q.2.list.length kc2]] W
      fun e w' => e = .returned (.int .i64 (ordV p q)) ∧ Below W.heap.size W w' := by
  intro N
  induction N with
  | zero => intro p hp; exfalso; unfold wt at hp; omega
  | succ N ih =>
    intro p hp gp hwf q gq hwq na nc ka kc na2 nc2 ka2 kc2 W hv hv2
    have hI : OIh 10 p := fun p' hp' gp' hwp' q' gq' hwq' na nc ka kc na2 nc2 ka2 kc2 W h1 h2 => ih p' (by omega) gp' hwp' q' gq' hwq' na nc ka kc na2 nc2 ka2 kc2 W h1 h2
    have kp := gp.k
    have kq := gq.k
    by_cases hne : clr p.1.k = clr q.1.k
    case neg =>
      have e : sg (clr p.1.k) (clr q.1.k) = ordV p q := by
        have hc : cls p.1.k ≠ cls q.1.k := by
          intro h
          apply hne
          simp only [cls, clr] at h ⊢
          (repeat' split at h) <;> (repeat' split) <;> omega
        rw [ordV, if_pos hc]
        simp only [sg, cls, clr]
        (repeat' split) <;> omega
      rw [← e]
      exact rord_diff p q hI gp gq hwf hwq na nc ka kc na2 nc2 ka2 kc2 W hv hv2 hne
    have hc : ¬ cls p.1.k ≠ cls q.1.k := by
      intro h
      apply h
      simp only [cls, clr] at hne ⊢
      (repeat' split at hne) <;> (repeat' split) <;> omega
    by_cases c1 : p.1.k = 2 ∨ p.1.k = 5
    · have e : sg p.1.n q.1.n = ordV p q := by rw [ordV, if_neg hc, if_pos c1]
      rw [← e]
      refine rord_int p q hI gp gq hwf hwq na nc ka kc na2 nc2 ka2 kc2 W hv hv2 (clr p.1.k) ?_ rfl hne.symm
      rcases c1 with c | c <;> simp [clr, c]
    by_cases c2 : p.1.k = 3 ∨ p.1.k = 4
    · have e : nm p.1 q.1 = ordV p q := by rw [ordV, if_neg hc, if_neg c1, if_pos c2]
      rw [← e]
      have hp3 : clr p.1.k = 3 := by rcases c2 with c | c <;> simp [clr, c]
      exact rord_num p q hI gp gq hwf hwq na nc ka kc na2 nc2 ka2 kc2 W hv hv2 hp3 (hne ▸ hp3)
    by_cases c3 : p.1.k = 6 ∨ p.1.k = 7
    · have e : tx p.1.t q.1.t = ordV p q := by rw [ordV, if_neg hc, if_neg c1, if_neg c2, if_pos c3]
      rw [← e]
      refine rord_text p q hI gp gq hwf hwq na nc ka kc na2 nc2 ka2 kc2 W hv hv2 (clr p.1.k) ?_ rfl hne.symm
      rcases c3 with c | c <;> simp [clr, c]
    have hsame : p.1.k = q.1.k := by
      simp only [clr] at hne
      (repeat' split at hne) <;> omega
    by_cases c9 : p.1.k = 9
    · have e : ordV p q = cmpF p.2 true p.1.ns q.2 q.1.ns := by rw [ordV, if_neg hc, if_neg c1, if_neg c2, if_neg c3, if_neg (by omega), if_pos c9]
      exact rord_struct p q hI gp gq hwf hwq na nc ka kc na2 nc2 ka2 kc2 W hv hv2 9 rfl (by simp [clr, c9]) (by simp [clr, ← hsame, c9]) p.1.ns q.1.ns (ordV p q) ⟨c9, by omega⟩ ⟨rfl, rfl⟩ (by simpa [Fo.drop] using e)
    · have e : ordV p q = cmpF p.2 false [] q.2 [] := by
        rw [ordV, if_neg hc, if_neg c1, if_neg c2, if_neg c3]
        by_cases c8 : p.1.k = 8
        · rw [if_pos c8]
        · rw [if_neg c8, if_neg c9]
          have hk1 : p.1.k = 1 := by omega
          have f1 := formed_leaf (.inl hk1) gp.form
          have f2 := formed_leaf (.inl (hsame ▸ hk1)) gq.form
          rw [list_nil f1, list_nil f2]
          rfl
      refine rord_list p q hI gp gq hwf hwq na nc ka kc na2 nc2 ka2 kc2 W hv hv2 (clr p.1.k) ?_ rfl hne.symm [] [] (ordV p q) (by simpa [Fo.drop] using e)
      simp only [clr]
      split <;> omega
#print axioms rorder_any
end Go.Proofs.YtoggcabenjmnoaaDoor
