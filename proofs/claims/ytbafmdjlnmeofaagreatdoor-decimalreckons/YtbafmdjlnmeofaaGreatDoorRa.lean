/-
  The document's own least of any wide number.
-/
import Derived.Test.YtbafmdjlnmeofaaGreatDoorRlx
import Derived.Test.YtbafmdjlnmeofaaGreatDoorRly
namespace Go.Proofs.YtbafmdjlnmeofaaGreatDoor
open Go.RowKit
set_option linter.unusedVariables false
theorem leastR_any (b : Bool) (h l m s : Nat) (hs : s < 9223372036854775808) (hw : Wd h l m) (r : Rs) (hr : rs (sgn b m) s = r) (w : World) :
    Calls Tryz.prog 30 #[.agg #[.int .u64 (h : Int), .int .u64 (l : Int), .bool b], .int .i64 (s : Int)] w fun e w' => e = .returned (.tuple #[.agg #[.int .i64 r.k, .int .i64 r.n, .int .i64 r.s, .string ⟨#[]⟩, .slice none 0 0, .slice none 0 0], .int .i64 r.e]) ∧ Grow w w' := by
  by_cases hm : m = 0
  · obtain ⟨rfl, rfl⟩ := hw.zero.1 hm
    subst hm
    have e : r = .ok 0 0 := by
      rw [← hr]
      have : sgn b 0 = 0 := by cases b <;> rfl
      rw [this, rs_zero]
    subst e
    exact leastR_zero b s w
  obtain ⟨⟨m', s'⟩, hd⟩ : ∃ d, dnN m s = d := ⟨_, rfl⟩
  have hle : m' ≤ m := by have := dnN_small s m; rw [hd] at this; exact this
  have hm' : m' ≠ 0 := by
    intro e
    have := dnN_val s m
    rw [hd] at this
    simp only [e, Nat.zero_mul] at this
    exact hm this.symm
  obtain ⟨h', l', hw'⟩ := wd_of m' (Nat.lt_of_le_of_lt hle hw.lt)
  have w1 := hw'.eq
  have w2 := hw'.l1
  have tg : (¬ h = 0) ∨ (h = 0 ∧ ¬ l = 0) := by
    have := hw.eq
    omega
  have hb : b.toNat ≤ 1 := by cases b <;> decide
  by_cases hf : s' ≤ 18 ∧ m' ≤ 9223372036854775807 + b.toNat
  · rw [rs_ok b hm hd hf.1 hf.2] at hr
    subst hr
    have hz : h' = 0 := by omega
    have hml : m' = l' := by omega
    have hf1 := hf.1
    have hf2 := hf.2
    by_cases h0 : s' = 0
    · have e3 : kd s' = 3 := by simp [kd, h0]
      have e0 : (s' : Int) = 0 := by omega
      show Calls _ _ _ _ fun e w' => e = .returned (.tuple #[.agg #[.int .i64 (kd s'), .int .i64 (sgn b m'), .int .i64 (s' : Int), _, _, _], _]) ∧ _
      rw [e3, e0]
      cases b
      · have ev : sgn false m' = (l' : Int) := by simp [sgn, hml]
        rw [ev]
        have hl63 : l' < 9223372036854775808 := by simp only [Bool.toNat_false] at hf2; omega
        obtain hh | ⟨rfl, hl⟩ := tg
        · exact leastR_hp_i h l m s hs hw hh h' l' m' s' hd hw' h0 hz (by omega) hl63 w
        · exact leastR_lp_i l m s hs hw hl h' l' m' s' hd hw' h0 hz (by omega) hl63 w
      · have hl63 : l' ≤ 9223372036854775808 := by simp only [Bool.toNat_true] at hf2; omega
        by_cases ht : l' = 9223372036854775808
        · have ev : sgn true m' = -9223372036854775808 := by simp [sgn, hml, ht]
          rw [ev]
          obtain hh | ⟨rfl, hl⟩ := tg
          · exact leastR_hn_it h l m s hs hw hh h' l' m' s' hd hw' h0 hz ht w
          · exact leastR_ln_it l m s hs hw hl h' l' m' s' hd hw' h0 hz ht w
        · have ev : sgn true m' = -((l' : Int) - 1) - 1 := by show -(m' : Int) = _; omega
          rw [ev]
          obtain hh | ⟨rfl, hl⟩ := tg
          · exact leastR_hn_i h l m s hs hw hh h' l' m' s' hd hw' h0 hz (by omega) (by omega) w
          · exact leastR_ln_i l m s hs hw hl h' l' m' s' hd hw' h0 hz (by omega) (by omega) w
    · have e4 : kd s' = 4 := by simp [kd, h0]
      show Calls _ _ _ _ fun e w' => e = .returned (.tuple #[.agg #[.int .i64 (kd s'), .int .i64 (sgn b m'), _, _, _, _], _]) ∧ _
      rw [e4]
      cases b
      · have ev : sgn false m' = (l' : Int) := by simp [sgn, hml]
        rw [ev]
        have hl63 : l' < 9223372036854775808 := by simp only [Bool.toNat_false] at hf2; omega
        obtain hh | ⟨rfl, hl⟩ := tg
        · exact leastR_hp_d h l m s hs hw hh h' l' m' s' hd hw' (by omega) hf1 hz (by omega) hl63 w
        · exact leastR_lp_d l m s hs hw hl h' l' m' s' hd hw' (by omega) hf1 hz (by omega) hl63 w
      · have hl63 : l' ≤ 9223372036854775808 := by simp only [Bool.toNat_true] at hf2; omega
        by_cases ht : l' = 9223372036854775808
        · have ev : sgn true m' = -9223372036854775808 := by simp [sgn, hml, ht]
          rw [ev]
          obtain hh | ⟨rfl, hl⟩ := tg
          · exact leastR_hn_dt h l m s hs hw hh h' l' m' s' hd hw' (by omega) hf1 hz ht w
          · exact leastR_ln_dt l m s hs hw hl h' l' m' s' hd hw' (by omega) hf1 hz ht w
        · have ev : sgn true m' = -((l' : Int) - 1) - 1 := by show -(m' : Int) = _; omega
          rw [ev]
          obtain hh | ⟨rfl, hl⟩ := tg
          · exact leastR_hn_d h l m s hs hw hh h' l' m' s' hd hw' (by omega) hf1 hz (by omega) (by omega) w
          · exact leastR_ln_d l m s hs hw hl h' l' m' s' hd hw' (by omega) hf1 hz (by omega) (by omega) w
  · rw [rs_no b hm hd (by omega)] at hr
    subst hr
    by_cases h1 : 18 < s'
    · obtain hh | ⟨rfl, hl⟩ := tg
      · cases b
        · exact leastR_hp_s h l m s hs hw hh h' l' m' s' hd hw' h1 w
        · exact leastR_hn_s h l m s hs hw hh h' l' m' s' hd hw' h1 w
      · cases b
        · exact leastR_lp_s l m s hs hw hl h' l' m' s' hd hw' h1 w
        · exact leastR_ln_s l m s hs hw hl h' l' m' s' hd hw' h1 w
    · have h18 : s' ≤ 18 := by omega
      by_cases h2 : h' = 0
      · have hbb : 9223372036854775807 + b.toNat < l' := by omega
        cases b
        · simp only [Bool.toNat_false] at hbb
          by_cases ht : l' = 9223372036854775808
          · obtain hh | ⟨rfl, hl⟩ := tg
            · exact leastR_hp_t h l m s hs hw hh h' l' m' s' hd hw' h18 h2 ht w
            · exact leastR_lp_t l m s hs hw hl h' l' m' s' hd hw' h18 h2 ht w
          · obtain hh | ⟨rfl, hl⟩ := tg
            · exact leastR_hp_l h l m s hs hw hh h' l' m' s' hd hw' h18 h2 (by omega) w
            · exact leastR_lp_l l m s hs hw hl h' l' m' s' hd hw' h18 h2 (by omega) w
        · simp only [Bool.toNat_true] at hbb
          obtain hh | ⟨rfl, hl⟩ := tg
          · exact leastR_hn_l h l m s hs hw hh h' l' m' s' hd hw' h18 h2 (by omega) w
          · exact leastR_ln_l l m s hs hw hl h' l' m' s' hd hw' h18 h2 (by omega) w
      · obtain hh | ⟨rfl, hl⟩ := tg
        · cases b
          · exact leastR_hp_h h l m s hs hw hh h' l' m' s' hd hw' h18 h2 w
          · exact leastR_hn_h h l m s hs hw hh h' l' m' s' hd hw' h18 h2 w
        · cases b
          · exact leastR_lp_h l m s hs hw hl h' l' m' s' hd hw' h18 h2 w
          · exact leastR_ln_h l m s hs hw hl h' l' m' s' hd hw' h18 h2 w
end Go.Proofs.YtbafmdjlnmeofaaGreatDoor
