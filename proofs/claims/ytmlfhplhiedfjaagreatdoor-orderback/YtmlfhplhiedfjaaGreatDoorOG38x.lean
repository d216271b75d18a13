/-
  The document's own least of any wide number. · The document's own Make; DecimalMakes' walk.
-/
import Derived.Test.YtmlfhplhiedfjaaGreatDoorOG26x
import Derived.Test.YtmlfhplhiedfjaaGreatDoorOG27x
import Derived.Test.YtmlfhplhiedfjaaGreatDoorOG28x
import Derived.Test.YtmlfhplhiedfjaaGreatDoorOG29x
import Derived.Test.YtmlfhplhiedfjaaGreatDoorOG30x
import Derived.Test.YtmlfhplhiedfjaaGreatDoorOG31x
import Derived.Test.YtmlfhplhiedfjaaGreatDoorOG32x
import Derived.Test.YtmlfhplhiedfjaaGreatDoorOG33x
import Derived.Test.YtmlfhplhiedfjaaGreatDoorOG34x
import Derived.Test.YtmlfhplhiedfjaaGreatDoorOG35x
import Derived.Test.YtmlfhplhiedfjaaGreatDoorOG36x
import Derived.Test.YtmlfhplhiedfjaaGreatDoorOG37x
namespace Go.Proofs.YtmlfhplhiedfjaaGreatDoor.D6
open Go.RowKit
set_option linter.unusedVariables false
theorem leastR_any (b : Bool) (h l m s : Nat) (hs : s < 9223372036854775808) (hw : Wd h l m) (r : Rs) (hr : rs (sgn b m) s = r) (w : World) :
    Calls Tryz.prog 122 #[.agg #[.int .u64 (h : Int), .int .u64 (l : Int), .bool b], .int .i64 (s : Int)] w fun e w' => e = .returned (.tuple #[.agg #[.int .i64 r.k, .int .i64 r.n, .int .i64 r.s, .string ⟨#[]⟩, .slice none 0 0, .slice none 0 0], .int .i64 r.e]) ∧ Grow w w' := by
  by_cases hm : m = 0
  · obtain ⟨rfl, rfl⟩ := hw.zero.1 hm
    subst hm
    have e : r = .ok 0 0 := by
      rw [← hr]
      have : sgn b 0 = 0 := by cases b <;> rfl
      rw [this, rs_zero]
    subst e
    exact leastR_zero b s w
  obtain ⟨⟨m', s'⟩, hd⟩ : ∃ d, dnN m s = d := ⟨_, rfl⟩
  have hle : m' ≤ m := by have := dnN_small s m; rw [hd] at this; exact this
  have hm' : m' ≠ 0 := by
    intro e
    have := dnN_val s m
    rw [hd] at this
    simp only [e, Nat.zero_mul] at this
    exact hm this.symm
  obtain ⟨h', l', hw'⟩ := wd_of m' (Nat.lt_of_le_of_lt hle hw.lt)
  have w1 := hw'.eq
  have w2 := hw'.l1
  have tg : (¬ h = 0) ∨ (h = 0 ∧ ¬ l = 0) := by
    have := hw.eq
    omega
  have hb : b.toNat ≤ 1 := by cases b <;> decide
  by_cases hf : s' ≤ 18 ∧ m' ≤ 9223372036854775807 + b.toNat
  · rw [rs_ok b hm hd hf.1 hf.2] at hr
    subst hr
    have hz : h' = 0 := by omega
    have hml : m' = l' := by omega
    have hf1 := hf.1
    have hf2 := hf.2
    by_cases h0 : s' = 0
    · have e3 : kd s' = 3 := by simp [kd, h0]
      have e0 : (s' : Int) = 0 := by omega
      show Calls _ _ _ _ fun e w' => e = .returned (.tuple #[.agg #[.int .i64 (kd s'), .int .i64 (sgn b m'), .int .i64 (s' : Int), _, _, _], _]) ∧ _
      rw [e3, e0]
      cases b
      · have ev : sgn false m' = (l' : Int) := by simp [sgn, hml]
        rw [ev]
        have hl63 : l' < 9223372036854775808 := by simp only [Bool.toNat_false] at hf2; omega
        obtain hh | ⟨rfl, hl⟩ := tg
        · exact leastR_hp_i h l m s hs hw hh h' l' m' s' hd hw' h0 hz (by omega) hl63 w
        · exact leastR_lp_i l m s hs hw hl h' l' m' s' hd hw' h0 hz (by omega) hl63 w
      · have hl63 : l' ≤ 9223372036854775808 := by simp only [Bool.toNat_true] at hf2; omega
        by_cases ht : l' = 9223372036854775808
        · have ev : sgn true m' = -9223372036854775808 := by simp [sgn, hml, ht]
          rw [ev]
          obtain hh | ⟨rfl, hl⟩ := tg
          · exact leastR_hn_it h l m s hs hw hh h' l' m' s' hd hw' h0 hz ht w
          · exact leastR_ln_it l m s hs hw hl h' l' m' s' hd hw' h0 hz ht w
        · have ev : sgn true m' = -((l' : Int) - 1) - 1 := by show -(m' : Int) = _; omega
          rw [ev]
          obtain hh | ⟨rfl, hl⟩ := tg
          · exact leastR_hn_i h l m s hs hw hh h' l' m' s' hd hw' h0 hz (by omega) (by omega) w
          · exact leastR_ln_i l m s hs hw hl h' l' m' s' hd hw' h0 hz (by omega) (by omega) w
    · have e4 : kd s' = 4 := by simp [kd, h0]
      show Calls _ _ _ _ fun e w' => e = .returned (.tuple #[.agg #[.int .i64 (kd s'), .int .i64 (sgn b m'), _, _, _, _], _]) ∧ _
      rw [e4]
      cases b
      · have ev : sgn false m' = (l' : Int) := by simp [sgn, hml]
        rw [ev]
        have hl63 : l' < 9223372036854775808 := by simp only [Bool.toNat_false] at hf2; omega
        obtain hh | ⟨rfl, hl⟩ := tg
        · exact leastR_hp_d h l m s hs hw hh h' l' m' s' hd hw' (by omega) hf1 hz (by omega) hl63 w
        · exact leastR_lp_d l m s hs hw hl h' l' m' s' hd hw' (by omega) hf1 hz (by omega) hl63 w
      · have hl63 : l' ≤ 9223372036854775808 := by simp only [Bool.toNat_true] at hf2; omega
        by_cases ht : l' = 9223372036854775808
        · have ev : sgn true m' = -9223372036854775808 := by simp [sgn, hml, ht]
          rw [ev]
          obtain hh | ⟨rfl, hl⟩ := tg
          · exact leastR_hn_dt h l m s hs hw hh h' l' m' s' hd hw' (by omega) hf1 hz ht w
          · exact leastR_ln_dt l m s hs hw hl h' l' m' s' hd hw' (by omega) hf1 hz ht w
        · have ev : sgn true m' = -((l' : Int) - 1) - 1 := by show -(m' : Int) = _; omega
          rw [ev]
          obtain hh | ⟨rfl, hl⟩ := tg
          · exact leastR_hn_d h l m s hs hw hh h' l' m' s' hd hw' (by omega) hf1 hz (by omega) (by omega) w
          · exact leastR_ln_d l m s hs hw hl h' l' m' s' hd hw' (by omega) hf1 hz (by omega) (by omega) w
  · rw [rs_no b hm hd (by omega)] at hr
    subst hr
    by_cases h1 : 18 < s'
    · obtain hh | ⟨rfl, hl⟩ := tg
      · cases b
        · exact leastR_hp_s h l m s hs hw hh h' l' m' s' hd hw' h1 w
        · exact leastR_hn_s h l m s hs hw hh h' l' m' s' hd hw' h1 w
      · cases b
        · exact leastR_lp_s l m s hs hw hl h' l' m' s' hd hw' h1 w
        · exact leastR_ln_s l m s hs hw hl h' l' m' s' hd hw' h1 w
    · have h18 : s' ≤ 18 := by omega
      by_cases h2 : h' = 0
      · have hbb : 9223372036854775807 + b.toNat < l' := by omega
        cases b
        · simp only [Bool.toNat_false] at hbb
          by_cases ht : l' = 9223372036854775808
          · obtain hh | ⟨rfl, hl⟩ := tg
            · exact leastR_hp_t h l m s hs hw hh h' l' m' s' hd hw' h18 h2 ht w
            · exact leastR_lp_t l m s hs hw hl h' l' m' s' hd hw' h18 h2 ht w
          · obtain hh | ⟨rfl, hl⟩ := tg
            · exact leastR_hp_l h l m s hs hw hh h' l' m' s' hd hw' h18 h2 (by omega) w
            · exact leastR_lp_l l m s hs hw hl h' l' m' s' hd hw' h18 h2 (by omega) w
        · simp only [Bool.toNat_true] at hbb
          obtain hh | ⟨rfl, hl⟩ := tg
          · exact leastR_hn_l h l m s hs hw hh h' l' m' s' hd hw' h18 h2 (by omega) w
          · exact leastR_ln_l l m s hs hw hl h' l' m' s' hd hw' h18 h2 (by omega) w
      · obtain hh | ⟨rfl, hl⟩ := tg
        · cases b
          · exact leastR_hp_h h l m s hs hw hh h' l' m' s' hd hw' h18 h2 w
          · exact leastR_hn_h h l m s hs hw hh h' l' m' s' hd hw' h18 h2 w
        · cases b
          · exact leastR_lp_h l m s hs hw hl h' l' m' s' hd hw' h18 h2 w
          · exact leastR_ln_h l m s hs hw hl h' l' m' s' hd hw' h18 h2 w
end Go.Proofs.YtmlfhplhiedfjaaGreatDoor.D6
namespace Go.Proofs.YtmlfhplhiedfjaaGreatDoor.D6
open Go.RowKit
set_option linter.unusedVariables false
set_option maxRecDepth 8000 in
theorem makeR_no (n s : Int) (hs : s < 0) (w : World) :
    Calls Tryz.prog 92 #[.int .i64 n, .int .i64 s] w fun e w' => e = .returned (.tuple #[.agg #[.int .i64 0, .int .i64 0, .int .i64 0, .string ⟨#[]⟩, .slice none 0 0, .slice none 0 0], .int .i64 10]) ∧ Grow w w' := by
  go_enter Tryz.func92, Tryz.ntmps92
  go_wp2
  exact bodyPost_ret (res_two rfl _ w.heap.size 38 _ _ rfl (blk_at rfl) Tryz.underlying38 rfl sV) rfl ⟨rfl, (Grow.refl _).alloc _⟩
set_option maxRecDepth 8000 in
theorem makeR_yes (n : Int) (s : Nat) (hs : s < 9223372036854775808) (f : -9223372036854775808 ≤ n ∧ n < 9223372036854775808) (r : Rs) (hr : rs n s = r) (w : World) :
    Calls Tryz.prog 92 #[.int .i64 n, .int .i64 (s : Int)] w fun e w' => e = .returned (.tuple #[.agg #[.int .i64 r.k, .int .i64 r.n, .int .i64 r.s, .string ⟨#[]⟩, .slice none 0 0, .slice none 0 0], .int .i64 r.e]) ∧ Grow w w' := by
  have g := sgn_abs n
  have K1 : Hid (∀ W, Calls Tryz.prog 130 #[.int .i64 n] W fun e w' => e = .returned (.agg #[.int .u64 0, .int .u64 (n.natAbs : Int), .bool (decide (n < 0))]) ∧ Grow W w') := fun W => ofR_any n _ rfl _ rfl f.1 f.2 W
  have K2 : Hid (∀ W, Calls Tryz.prog 122 #[.agg #[.int .u64 0, .int .u64 (n.natAbs : Int), .bool (decide (n < 0))], .int .i64 (s : Int)] W fun e w' => e = .returned (.tuple #[.agg #[.int .i64 r.k, .int .i64 r.n, .int .i64 r.s, .string ⟨#[]⟩, .slice none 0 0, .slice none 0 0], .int .i64 r.e]) ∧ Grow W w') := fun W => leastR_any (decide (n < 0)) 0 n.natAbs n.natAbs s hs ⟨by omega, by omega, by omega⟩ r (by rw [g]; exact hr) W
  generalize n.natAbs = A at *
  generalize decide (n < 0) = B at *
  clear g f hr
  go_enter Tryz.func92, Tryz.ntmps92
  go_wp2_with fail
  obtain ⟨w1, HW1⟩ : ∃ w1, (w.alloc (Obj.cells #[.int .i64 0, .int .i64 0, .int .i64 0, .string ⟨#[]⟩, .slice none 0 0, .slice none 0 0] 38)) = w1 := ⟨_, rfl⟩
  obtain ⟨C, hC⟩ : ∃ C : World → Prop, C = fun W => Grow w1 W := ⟨_, rfl⟩
  have GW : Hid (∀ W, C W → Grow w W) := fun W hW => by rw [hC, ← HW1] at hW; exact Grow.trans ((Grow.refl _).alloc _) hW
  have B0 : Hid (∀ W, C W → Blk W (w.heap.size) 38 [.int .i64 0, .int .i64 0, .int .i64 0, .string ⟨#[]⟩, .slice none 0 0, .slice none 0 0]) := fun W hW => by rw [hC, ← HW1] at hW; exact Blk.grow (blk_at rfl) hW
  have CG : Hid (∀ W W', C W → Grow W W' → C W') := fun W W' h1 h2 => by rw [hC] at h1 ⊢; exact h1.trans h2
  have CW : Hid (C w1) := by rw [hC]; exact Grow.refl _
  rw [HW1]
  clear HW1 hC
  refine (K1.out _).mono ?_
  rintro e w2 ⟨rfl, g2⟩
  go_wp2_with fail
  refine (K2.out _).mono ?_
  rintro e w3 ⟨rfl, g3⟩
  have HB : Hid (Blk w3 w.heap.size 38 [.int .i64 0, .int .i64 0, .int .i64 0, .string ⟨#[]⟩, .slice none 0 0, .slice none 0 0] ∧ Grow w w3) := ⟨((B0.out _ CW.out).grow g2).grow g3, ((GW.out _ CW.out).trans g2).trans g3⟩
  clear B0 GW CG CW g2 g3 K1 K2
  go_wp2_with (refine st_all rfl 38 (.tmp 4) (.tmp 13) rfl w.heap.size 38 [.int .i64 0, .int .i64 0, .int .i64 0, .string ⟨#[]⟩, .slice none 0 0, .slice none 0 0] [.int .i64 r.k, .int .i64 r.n, .int .i64 r.s, .string ⟨#[]⟩, .slice none 0 0, .slice none 0 0] rfl rfl HB.out.1 rfl sV (ones rfl) ?_)
  intro w5 b5 g5
  have HB5 : Hid (Blk w5 w.heap.size 38 [.int .i64 r.k, .int .i64 r.n, .int .i64 r.s, .string ⟨#[]⟩, .slice none 0 0, .slice none 0 0]) := b5
  have HG5 : Hid (Grow w w5) := Below.grown HB.out.2 g5 HB.out.2.size (by intro e he; injection he with he; omega)
  clear b5 g5 HB
  go_wp2
  exact bodyPost_ret (res_two rfl _ w.heap.size 38 _ _ rfl HB5.out Tryz.underlying38 rfl sV) rfl ⟨rfl, HG5.out⟩
theorem makeR_any (n s : Int) (f : -9223372036854775808 ≤ n ∧ n < 9223372036854775808) (hs : s < 9223372036854775808) (w : World) :
    Calls Tryz.prog 92 #[.int .i64 n, .int .i64 s] w fun e w' => e = .returned (.tuple #[.agg #[.int .i64 (mkR n s).k, .int .i64 (mkR n s).n, .int .i64 (mkR n s).s, .string ⟨#[]⟩, .slice none 0 0, .slice none 0 0], .int .i64 (mkR n s).e]) ∧ Grow w w' := by
  by_cases h : s < 0
  · have e : mkR n s = .rg := by simp [mkR, h]
    rw [e]
    exact makeR_no n s h w
  · have e : mkR n s = rs n s.toNat := by simp [mkR, h]
    rw [e]
    have := makeR_yes n s.toNat (by omega) f _ rfl w
    rw [show ((s.toNat : Nat) : Int) = s by omega] at this
    exact this
end Go.Proofs.YtmlfhplhiedfjaaGreatDoor.D6
