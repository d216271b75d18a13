/-
  Halves: where one begins and ends, on which side it stands; the last whole one; the node of two roots; the document's own half.
-/
import Derived.Test.YtfkiciejipcgkaaDoorEd
import Derived.Test.YtfkiciejipcgkaaDoorEc
import Derived.Test.YtfkiciejipcgkaaDoorEl
import Derived.Test.YtfkiciejipcgkaaDoorSNode
namespace Go.Proofs.YtfkiciejipcgkaaDoor
open Go.RowKit Sh
theorem bits_i64 (op : BinOp) (f : Nat → Nat → Nat) (a b : Nat) (ha : a < 9223372036854775808) (hb : b < 9223372036854775808) (hf : f a b < 9223372036854775808)
    (h : bits op .i64 (a : Int) (b : Int) = IntKind.i64.wrap ((f (BitVec.ofInt 64 (a : Int)).toNat (BitVec.ofInt 64 (b : Int)).toNat : Nat) : Int)) : bits op .i64 (a : Int) (b : Int) = ((f a b : Nat) : Int) := by
  have h1 : ∀ a : Nat, a < 9223372036854775808 → (BitVec.ofInt 64 (a : Int)).toNat = a := fun a ha => by
    rw [BitVec.ofInt_natCast, BitVec.toNat_ofNat]; exact Nat.mod_eq_of_lt (by omega)
  rw [h, h1 a ha, h1 b hb]
  simp only [IntKind.wrap, IntKind.signed, IntKind.bits]
  simp
  omega
theorem and_one (a : Nat) (ha : a < 9223372036854775807) : bits .and .i64 (a : Int) 1 = ((a % 2 : Nat) : Int) := by
  rw [← Nat.and_one_is_mod]
  exact bits_i64 .and (fun a b => a &&& b) a 1 (by omega) (by omega) (Nat.lt_of_le_of_lt Nat.and_le_left (by omega)) (by rw [← BitVec.toNat_and]; rfl)
theorem xor_one_eq (a : Nat) : a ^^^ 1 = Mk.xr a := by
  have h1 : (a ^^^ 1) / 2 = a / 2 := by rw [Nat.xor_div_two]; simp
  have h2 := Nat.xor_mod_two_eq_one (a := a) (b := 1)
  unfold Mk.xr
  split <;> omega
theorem xor_one' (a : Nat) (ha : a < 9223372036854775807) : bits .xor .i64 (a : Int) 1 = ((Mk.xr a : Nat) : Int) := by
  have hx : Mk.xr a < 9223372036854775808 := by unfold Mk.xr; split <;> omega
  rw [← xor_one_eq] at hx ⊢
  exact bits_i64 .xor (fun a b => a ^^^ b) a 1 (by omega) (by omega) hx (by rw [← BitVec.toNat_xor]; rfl)
theorem wrap_small {n : Nat} {x : Int} (e : x = (n : Int)) (h : n < 9223372036854775808) : wrap64 x = (n : Int) := by rw [e]; simp only [wrap64]; omega
theorem cast_shl (o l : Nat) : (o : Int) * 2 ^ l = ((o * 2 ^ l : Nat) : Int) := by rw [Int.natCast_mul, Int.natCast_pow]; rfl
theorem begin_any (l o : Nat) (hl : l ≤ 60) (ho : o * 2 ^ l ≤ 1000000000000000) (w : World) :
    Calls Tryd.prog 36 #[.agg #[.int .i64 (l : Int), .int .i64 (o : Int)]] w fun e w' => e = .returned (.int .i64 ((o * 2 ^ l : Nat) : Int)) ∧ Below w.heap.size w w' := by
  have e : wrap64 ((o : Int) * 2 ^ l) = ((o * 2 ^ l : Nat) : Int) := wrap_small (cast_shl o l) (by omega)
  go_enter Tryd.func36, Tryd.ntmps36
  go_wp2
  go_ret
  exact ⟨by rw [e]; rfl, (Below.refl _ _).alloc (Nat.le_refl _) _⟩
theorem end_any' (l o : Nat) (hl : l ≤ 60) (h0 : o ≤ 1000000000000000) (ho : (o + 1) * 2 ^ l ≤ 1000000000000000) (w : World) :
    Calls Tryd.prog 31 #[.agg #[.int .i64 (l : Int), .int .i64 (o : Int)]] w fun e w' => e = .returned (.int .i64 (((o + 1) * 2 ^ l : Nat) : Int)) ∧ Below w.heap.size w w' := by
  have e : wrap64 (((o : Int) + 1) * 2 ^ l) = (((o + 1) * 2 ^ l : Nat) : Int) := wrap_small (cast_shl (o + 1) l) (by omega)
  go_enter Tryd.func31, Tryd.ntmps31
  go_wp2
  go_ret
  exact ⟨by rw [e]; rfl, (Below.refl _ _).alloc (Nat.le_refl _) _⟩
theorem first_any (l o : Nat) (w : World) :
    Calls Tryd.prog 23 #[.agg #[.int .i64 (l : Int), .int .i64 (o : Int)]] w fun e w' => e = .returned (.bool (decide (o = 0))) ∧ Below w.heap.size w w' := by
  have e2 : ((o : Int) == 0) = decide (o = 0) := by
    by_cases h : o = 0
    · simp [h]
    · rw [decide_eq_false h, beq_eq_false_iff_ne]; omega
  go_enter Tryd.func23, Tryd.ntmps23
  go_wp2
  go_ret
  exact ⟨rfl, (Below.refl _ _).alloc (Nat.le_refl _) _⟩
/-- the last whole half of m = (2 u + 1) 2^c leaves. -/
theorem last_any (m c u : Nat) (hm : m = (2 * u + 1) * 2 ^ c) (h1 : m ≤ 1099511627776) (w : World) (hT : Tb w) :
    Calls Tryd.prog 22 #[.int .i64 (m : Int)] w fun e w' => e = .returned (.agg #[.int .i64 (c : Int), .int .i64 ((2 * u : Nat) : Int)]) ∧ Below w.heap.size w w' := by
  have h0 : 0 < m := by rw [hm]; exact Nat.mul_pos (by omega) (Mk.pow_pos2 c)
  have hc : Lib.ctz 64 m = c := by
    obtain ⟨c', u', a, b, d⟩ := odd_of m h0 (by omega)
    rw [b]
    rw [hm] at a
    rcases Nat.lt_trichotomy c c' with h | h | h
    · rw [Mk.pow_split (Nat.le_of_lt h), Mk.pow_even (k := c' - c) (by omega)] at a
      have a2 := Nat.eq_of_mul_eq_mul_left (Mk.pow_pos2 c) (show 2 ^ c * (2 * u + 1) = 2 ^ c * ((2 * u' + 1) * (2 * 2 ^ (c' - c - 1))) by rw [Nat.mul_comm, a]; simp only [Nat.mul_left_comm])
      rw [Nat.mul_left_comm] at a2
      omega
    · exact h.symm
    · rw [Mk.pow_split (Nat.le_of_lt h), Mk.pow_even (k := c - c') (by omega)] at a
      have a2 := Nat.eq_of_mul_eq_mul_left (Mk.pow_pos2 c') (show 2 ^ c' * (2 * u' + 1) = 2 ^ c' * ((2 * u + 1) * (2 * 2 ^ (c - c' - 1))) by rw [Nat.mul_comm, ← a]; simp only [Nat.mul_left_comm])
      rw [Nat.mul_left_comm] at a2
      omega
  have K := tz_any m h0 (by omega) (w.alloc (.cells #[.int .i64 0, .int .i64 0] 54)) (hT.grow ((Below.refl _ _).alloc (Nat.le_refl _) _))
  rw [hc] at K
  have hw : IntKind.u64.wrap (m : Int) = (m : Int) := by rw [IntKind.wrap_u64]; omega
  have hu : 2 * u + 1 ≤ 1099511627776 := by
    refine Nat.le_trans ?_ h1
    rw [hm]
    exact Nat.le_mul_of_pos_right _ (Mk.pow_pos2 c)
  have hc60 : c ≤ 60 := by
    refine Nat.le_of_not_lt fun h => ?_
    have h2 := Nat.pow_le_pow_right (n := 2) (by decide) (Nat.le_of_lt h)
    have h3 := Nat.le_mul_of_pos_left (2 ^ c) (show 0 < 2 * u + 1 by omega)
    omega
  obtain ⟨v, hd, hv⟩ : ∃ v : Nat, (m : Int) / 2 ^ c = (v : Int) ∧ Hid (v = 2 * u + 1) := by
    refine ⟨2 * u + 1, ?_, rfl⟩
    have : m / 2 ^ c = 2 * u + 1 := by rw [hm, Nat.mul_div_cancel _ (Mk.pow_pos2 c)]
    rw [← this]
    simp
  have he : wrap64 ((v : Int) - 1) = ((2 * u : Nat) : Int) := wrap_small (by have := hv.out; omega) (by omega)
  clear hc hm h0 hu
  go_enter Tryd.func22, Tryd.ntmps22
  go_wp2_with fail
  refine K.mono ?_
  rintro e w' ⟨rfl, rfl⟩
  go_wp2
  (try simp only [Exit.inBlock, Exit.then])
  refine bodyPost_ret (res_row rfl _ w.heap.size 54 [.int .i64 (c : Int), .int .i64 ((2 * u : Nat) : Int)] _ rfl (by first | exact blk_new w _ _ | (rw [he]; exact blk_new w _ _)) Tryd.underlying54 rfl (by kernel_rfl)) rfl ⟨rfl, (Below.refl _ _).alloc (Nat.le_refl _) _⟩
/-- the document's own half: the greatest power of two below n. -/
theorem half_any (n T P : Nat) (hP : Hid (P = 2 ^ T)) (h1 : 2 ^ T < n) (h2 : n ≤ 2 ^ (T + 1)) (hn : n ≤ 1099511627776) (w : World) :
    Calls Tryd.prog 35 #[.int .i64 (n : Int)] w fun e w' => e = .returned (.int .i64 (P : Int)) ∧ w' = w := by
  go_enter Tryd.func35, Tryd.ntmps35
  go_wp2
  go_loop [3] (fun x => ∃ j k : Nat, x = .int .i64 (k : Int) ∧ k = 2 ^ j ∧ j ≤ T ∧ k < n) (fun x => n - (intOf x).toNat)
  case atStart => exact ⟨0, 1, rfl, rfl, Nat.zero_le _, by have := Mk.pow_pos2 T; omega⟩
  case round =>
    obtain ⟨j, k, rfl, hk, hj, hlt⟩ := hrel
    have hk0 : 0 < k := by rw [hk]; exact Mk.pow_pos2 j
    by_cases hc : k < n - k
    · have hc1 : (k : Int) < (n : Int) - (k : Int) := by omega
      have hjT : Hid (j + 1 ≤ T ∧ 2 * k = 2 ^ (j + 1)) := by
        refine ⟨?_, by rw [hk, Nat.pow_succ, Nat.mul_comm]⟩
        refine Nat.lt_of_le_of_ne hj fun e => ?_
        rw [e] at hk
        rw [Nat.pow_succ] at h2
        omega
      clear hk
      go_wp2
      go_round
      case rel => exact ⟨j + 1, 2 * k, by simp, hjT.out.2, hjT.out.1, by omega⟩
      case measure => simp [intOf]; omega
    · have hc1 : ¬ (k : Int) < (n : Int) - (k : Int) := by omega
      have e : Hid (k = P) := by
        show k = P
        rw [hP.out]
        have : n ≤ 2 * k := by omega
        rcases Nat.lt_or_eq_of_le hj with h | h
        · have h3 := Nat.pow_le_pow_right (n := 2) (by decide) (show j + 1 ≤ T by omega)
          rw [Nat.pow_succ] at h3
          omega
        · rw [hk, h]
      clear hk h1 h2 hj
      go_wp2
      go_ret
      exact ⟨by rw [← e.out]; rfl, rfl⟩
end Go.Proofs.YtfkiciejipcgkaaDoor
