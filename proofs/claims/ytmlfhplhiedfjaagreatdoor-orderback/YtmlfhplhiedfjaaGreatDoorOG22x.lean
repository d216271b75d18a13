/-
  Is it a number? value.Check and the document's own Check of values whose kind is Int or Decimal. · isNumber; the document's own Check and Is of numbers. · decimal's reckon, Make, Neg. · decimal's Add, Sub, Mul, Neg, Make: what they answer.
-/
import Derived.Test.YtmlfhplhiedfjaaGreatDoorOD6Le
import Derived.Test.YtmlfhplhiedfjaaGreatDoorOD6Va
namespace Go.Proofs.YtmlfhplhiedfjaaGreatDoor.D6
open Go.RowKit
set_option linter.unusedVariables false
/-- Int or Decimal, formed as such. -/
def isNum (k n s : Int) (t : ByteArray) (nl kl : Nat) : Bool :=
  (decide (k = 3) && decide (s = 0) || decide (k = 4) && decide (1 ≤ s) && decide (s ≤ 18) && !decide (n.tmod 10 = 0)) && t.toList.isEmpty && decide (nl = 0) && decide (kl = 0)
theorem bytes_nil {t : ByteArray} (h : t.toList.isEmpty = true) : t = ⟨#[]⟩ := by
  rw [ByteArray.toList_eq] at h
  cases t with
  | mk d =>
    have : d.toList = [] := by simpa using h
    simp only [ByteArray.mk.injEq]
    exact Array.toList_inj.1 (by simpa using this)
/-- What a number is. -/
theorem isNum_yes {k n s : Int} {t : ByteArray} {nl kl : Nat} (h : isNum k n s t nl kl = true) : t = ⟨#[]⟩ ∧ nl = 0 ∧ kl = 0 ∧ ((k = 3 ∧ s = 0) ∨ (k = 4 ∧ 1 ≤ s ∧ s ≤ 18 ∧ n.tmod 10 ≠ 0)) := by
  simp only [isNum, Bool.and_eq_true, Bool.or_eq_true, decide_eq_true_eq, Bool.not_eq_true', decide_eq_false_iff_not] at h
  obtain ⟨⟨⟨h1, h2⟩, h3⟩, h4⟩ := h
  refine ⟨bytes_nil h2, h3, h4, ?_⟩
  rcases h1 with h1 | ⟨⟨⟨a, b⟩, c⟩, d⟩
  · exact .inl h1
  · exact .inr ⟨a, b, c, d⟩
def only (n s : Int) (t : ByteArray) (nl kl : Nat) (F : Int) : Bool :=
  (F = 1 || F = 3 || decide (n = 0)) && (F = 3 || decide (s = 0)) && t.toList.isEmpty && decide (nl = 0) && decide (kl = 0)
set_option maxRecDepth 8000 in
set_option maxHeartbeats 2000000 in
theorem only_any (k n s : Int) (t : ByteArray) (na : Option Addr) (nl nc : Nat) (ka : Option Addr) (kl kc : Nat) (F : Int) (hF : F = 1 ∨ F = 3) (w : World) :
    Calls Tryz.prog 123 #[.agg #[.int .i64 k, .int .i64 n, .int .i64 s, .string t, .slice na nl nc, .slice ka kl kc], .int .u64 F] w fun e w' => e = .returned (.bool (only n s t nl kl F)) ∧ Grow w w' := by
  have HF : Hid _ := hF
  clear hF
  go_enter Tryz.func123, Tryz.ntmps123
  go_wp2
  all_goals
    go_ret
    refine ⟨?_, (Grow.refl _).alloc _⟩
    unfold only
    cases hte : t.toList.isEmpty <;> rcases HF.out with rfl | rfl <;> simp_all <;> decide
end Go.Proofs.YtmlfhplhiedfjaaGreatDoor.D6
namespace Go.Proofs.YtmlfhplhiedfjaaGreatDoor.D6
open Go.RowKit
set_option linter.unusedVariables false
end Go.Proofs.YtmlfhplhiedfjaaGreatDoor.D6
namespace Go.Proofs.YtmlfhplhiedfjaaGreatDoor.D6
open Go.RowKit
set_option linter.unusedVariables false
end Go.Proofs.YtmlfhplhiedfjaaGreatDoor.D6
namespace Go.Proofs.YtmlfhplhiedfjaaGreatDoor.D6
open Go.RowKit
set_option linter.unusedVariables false
/-- A value that is handed in, without what is below it. -/
structure Vv where
  k : Int
  n : Int
  s : Int
  t : ByteArray
  na : Option Addr
  nl : Nat
  nc : Nat
  ka : Option Addr
  kl : Nat
  kc : Nat
def Vv.num (v : Vv) : Bool := isNum v.k v.n v.s v.t v.nl v.kl
inductive Way where
  | add : Way
  | sub : Way
  | mul : Way
def addZ (n1 : Int) (s1 : Nat) (n2 : Int) (s2 : Nat) : Int := n1 * ((10 ^ (max s1 s2 - s1) : Nat) : Int) + n2 * ((10 ^ (max s1 s2 - s2) : Nat) : Int)
def Way.z : Way → Int → Nat → Int → Nat → Int
  | .add, n1, s1, n2, s2 => addZ n1 s1 n2 s2
  | .sub, n1, s1, n2, s2 => addZ n1 s1 (-n2) s2
  | .mul, n1, _, n2, _ => n1 * n2
def Way.s : Way → Nat → Nat → Nat
  | .mul, s1, s2 => s1 + s2
  | _, s1, s2 => max s1 s2
theorem Vv.is {v : Vv} (h : v.num = true) : v.t = ⟨#[]⟩ ∧ v.nl = 0 ∧ v.kl = 0 ∧ v.s = (v.s.toNat : Int) ∧ v.s.toNat ≤ 18 ∧ (v.s.toNat = 0 ∨ v.n % 10 ≠ 0) ∧ v.k = kd v.s.toNat := by
  obtain ⟨h1, h2, h3, h4⟩ := isNum_yes h
  refine ⟨h1, h2, h3, ?_⟩
  rcases h4 with ⟨hk, hs⟩ | ⟨hk, a, b, c⟩
  · rw [hs, hk]
    exact ⟨rfl, by decide, .inl rfl, rfl⟩
  · refine ⟨by omega, by omega, .inr ?_, ?_⟩
    · intro e
      apply c
      rw [Int.tmod_eq_emod]
      split <;> omega
    · rw [hk]
      unfold kd
      rw [if_neg (by omega)]
theorem sgn_abs (n : Int) : sgn (decide (n < 0)) n.natAbs = n := by
  unfold sgn
  by_cases h : n < 0
  · simp [h]; omega
  · simp [h]; omega
set_option maxRecDepth 8000 in
theorem make_no (n s : Int) (hs : s < 0) (w : World) :
    Calls Tryz.prog 126 #[.int .i64 n, .int .i64 s] w fun e w' => e = .returned (.tuple #[.agg #[.int .i64 0, .int .i64 0, .int .i64 0, .string ⟨#[]⟩, .slice none 0 0, .slice none 0 0], .int .i64 10]) ∧ Grow w w' := by
  go_enter Tryz.func126, Tryz.ntmps126
  go_wp2
  exact bodyPost_ret (res_two rfl _ w.heap.size 38 _ _ rfl (blk_at rfl) Tryz.underlying38 rfl sV) rfl ⟨rfl, (Grow.refl _).alloc _⟩
set_option maxRecDepth 8000 in
theorem make_yes (n : Int) (s : Nat) (hs : s < 9223372036854775808) (f : -9223372036854775808 ≤ n ∧ n < 9223372036854775808) (r : Rs) (hr : rs n s = r) (w : World) :
    Calls Tryz.prog 126 #[.int .i64 n, .int .i64 (s : Int)] w fun e w' => e = .returned (.tuple #[.agg #[.int .i64 r.k, .int .i64 r.n, .int .i64 r.s, .string ⟨#[]⟩, .slice none 0 0, .slice none 0 0], .int .i64 r.e]) ∧ Grow w w' := by
  have g := sgn_abs n
  have K1 : Hid (∀ W, Calls Tryz.prog 102 #[.int .i64 n, .int .i64 (s : Int)] W fun e w' => e = .returned (.agg #[.bool (decide (n < 0)), .int .u64 0, .int .u64 (n.natAbs : Int), .int .i64 (s : Int)]) ∧ Grow W w') := fun W => numberOf_any n s _ rfl _ rfl f.1 f.2 W
  have K2 : Hid (∀ W, Calls Tryz.prog 149 #[.agg #[.bool (decide (n < 0)), .int .u64 0, .int .u64 (n.natAbs : Int), .int .i64 (s : Int)]] W fun e w' => e = .returned (.tuple #[.agg #[.int .i64 r.k, .int .i64 r.n, .int .i64 r.s, .string ⟨#[]⟩, .slice none 0 0, .slice none 0 0], .int .i64 r.e]) ∧ Grow W w') := fun W => value_any (decide (n < 0)) 0 n.natAbs n.natAbs s hs ⟨by omega, by omega, by omega⟩ r (by rw [g]; exact hr) W
  generalize n.natAbs = A at *
  generalize decide (n < 0) = B at *
  clear g f hr
  go_enter Tryz.func126, Tryz.ntmps126
  go_wp2_with fail
  obtain ⟨w1, HW1⟩ : ∃ w1, (w.alloc (Obj.cells #[.int .i64 0, .int .i64 0, .int .i64 0, .string ⟨#[]⟩, .slice none 0 0, .slice none 0 0] 38)) = w1 := ⟨_, rfl⟩
  obtain ⟨C, hC⟩ : ∃ C : World → Prop, C = fun W => Grow w1 W := ⟨_, rfl⟩
  have GW : Hid (∀ W, C W → Grow w W) := fun W hW => by rw [hC, ← HW1] at hW; exact Grow.trans ((Grow.refl _).alloc _) hW
  have B0 : Hid (∀ W, C W → Blk W (w.heap.size) 38 [.int .i64 0, .int .i64 0, .int .i64 0, .string ⟨#[]⟩, .slice none 0 0, .slice none 0 0]) := fun W hW => by rw [hC, ← HW1] at hW; exact Blk.grow (blk_at rfl) hW
  have CG : Hid (∀ W W', C W → Grow W W' → C W') := fun W W' h1 h2 => by rw [hC] at h1 ⊢; exact h1.trans h2
  have CW : Hid (C w1) := by rw [hC]; exact Grow.refl _
  rw [HW1]
  clear HW1 hC
  refine (K1.out _).mono ?_
  rintro e w2 ⟨rfl, g2⟩
  go_wp2_with fail
  refine (K2.out _).mono ?_
  rintro e w3 ⟨rfl, g3⟩
  have HB : Hid (Blk w3 w.heap.size 38 [.int .i64 0, .int .i64 0, .int .i64 0, .string ⟨#[]⟩, .slice none 0 0, .slice none 0 0] ∧ Grow w w3) := ⟨((B0.out _ CW.out).grow g2).grow g3, ((GW.out _ CW.out).trans g2).trans g3⟩
  clear B0 GW CG CW g2 g3 K1 K2
  go_wp2_with (refine st_all rfl 38 (.tmp 4) (.tmp 13) rfl w.heap.size 38 [.int .i64 0, .int .i64 0, .int .i64 0, .string ⟨#[]⟩, .slice none 0 0, .slice none 0 0] [.int .i64 r.k, .int .i64 r.n, .int .i64 r.s, .string ⟨#[]⟩, .slice none 0 0, .slice none 0 0] rfl rfl HB.out.1 rfl sV (ones rfl) ?_)
  intro w5 b5 g5
  have HB5 : Hid (Blk w5 w.heap.size 38 [.int .i64 r.k, .int .i64 r.n, .int .i64 r.s, .string ⟨#[]⟩, .slice none 0 0, .slice none 0 0]) := b5
  have HG5 : Hid (Grow w w5) := Below.grown HB.out.2 g5 HB.out.2.size (by intro e he; injection he with he; omega)
  clear b5 g5 HB
  go_wp2
  exact bodyPost_ret (res_two rfl _ w.heap.size 38 _ _ rfl HB5.out Tryz.underlying38 rfl sV) rfl ⟨rfl, HG5.out⟩
/-- What Make answers. -/
def mkR (n s : Int) : Rs := if s < 0 then .rg else rs n s.toNat
theorem make_any (n s : Int) (f : -9223372036854775808 ≤ n ∧ n < 9223372036854775808) (hs : s < 9223372036854775808) (w : World) :
    Calls Tryz.prog 126 #[.int .i64 n, .int .i64 s] w fun e w' => e = .returned (.tuple #[.agg #[.int .i64 (mkR n s).k, .int .i64 (mkR n s).n, .int .i64 (mkR n s).s, .string ⟨#[]⟩, .slice none 0 0, .slice none 0 0], .int .i64 (mkR n s).e]) ∧ Grow w w' := by
  by_cases h : s < 0
  · have e : mkR n s = .rg := by simp [mkR, h]
    rw [e]
    exact make_no n s h w
  · have e : mkR n s = rs n s.toNat := by simp [mkR, h]
    rw [e]
    have := make_yes n s.toNat (by omega) f _ rfl w
    rw [show ((s.toNat : Nat) : Int) = s by omega] at this
    exact this
end Go.Proofs.YtmlfhplhiedfjaaGreatDoor.D6
