/-
   ·  ·  ·  ·  ·  · 
-/
import Derived.Test.YtpfiejmhnkcjbaaGreatDoorHG20x
import Derived.Lib.Mul64
import Derived.Laws.Bits64b
import Derived.Shelf.Spec.BitsCarry
import Derived.Deep.Cut
import Derived.Test.YtpfiejmhnkcjbaaGreatDoorHG0x
namespace Go.Proofs.YtpfiejmhnkcjbaaGreatDoor.D6
set_option maxHeartbeats 1000000
set_option maxRecDepth 20000
open Go.RowKit
set_option linter.unusedVariables false
set_option linter.unusedVariables false
theorem ret_num {k : IntKind} {a b : Int} (h : a = b) : Ending.returned (.int k a) = .returned (.int k b) := by rw [h]
theorem abs65 (x : Int) (h0 : -9223372036854775808 <= x) (h1 : x < 9223372036854775808) (w : World) : Calls Tryz.prog 28 #[.int .i64 x] w fun e w' => e = .returned (.int .u64 (x.natAbs : Int)) /\ w' = w := by
 go_enter Tryz.func28, Tryz.ntmps28
 go_wp2
 all_goals
  go_ret
  refine ⟨ret_num ?_, rfl⟩
  try simp only [IntKind.wrap_u64]
  omega
theorem pow_le {k n : Nat} (h : k <= n) : 10 ^ k <= 10 ^ n := Nat.pow_le_pow_right (by decide) h
theorem tensD (n : Nat) (hn : n <= 18) (w : World) : Calls Tryz.prog 75 #[.int .i64 (n : Int)] w fun e w' => e = .returned (.int .u64 ((10 ^ n : Nat) : Int)) /\ w' = w := by
 go_enter Tryz.func75, Tryz.ntmps75
 go_wp2
 go_loopw [3, 5] (fun p i wr => ∃ k v : Nat, k <= n /\ i = .int .i64 (k : Int) /\ p = .int .u64 (v : Int) /\ wr = w /\ Hid (v = 10 ^ k)) (fun _ i _ => n - (intOf i).toNat)
 case atStart => exact ⟨0, 1, by omega, rfl, rfl, rfl, rfl⟩
 case round =>
  obtain ⟨k, v, hk, rfl, rfl, rfl, HV⟩ := hrel
  by_cases hlt : k < n
  case neg =>
   go_wp2
   go_ret
   exact ⟨ret_num (by rw [HV.out, show k = n by omega]), rfl⟩
  have hv : v * 10 < 18446744073709551616 := by
   have h1 := pow_le (k := k + 1) (n := 18) (by omega)
   rw [Nat.pow_succ, <- HV.out] at h1
   omega
  go_wp2
  go_roundw
  case rel => exact ⟨k + 1, v * 10, by omega, by go_num, by go_num, trivial, show v * 10 = 10 ^ (k + 1) by rw [Nat.pow_succ, HV.out]⟩
  case measure => simp [intOf]; omega
namespace Mul
theorem maskN (a : Nat) (ha : a < 18446744073709551616) : bits .and .u64 (a : Int) 4294967295 = ((a % 4294967296 : Nat) : Int) := by
 have h := bits_and_u64_nat a 4294967295 ha (by omega)
 have e : a &&& 4294967295 = a % 4294967296 := Nat.and_two_pow_sub_one_eq_mod a 32
 rw [e] at h
 exact h
theorem divN (a : Nat) : (a : Int) / 4294967296 = ((a / 4294967296 : Nat) : Int) := by omega
theorem mulN (a b : Nat) : (a : Int) * (b : Int) = ((a * b : Nat) : Int) := (Int.natCast_mul a b).symm
theorem addN (a b : Nat) : (a : Int) + (b : Int) = ((a + b : Nat) : Int) := (Int.natCast_add a b).symm
theorem wrapN (a : Nat) (ha : a < 18446744073709551616) : IntKind.u64.wrap (a : Int) = (a : Int) := by rw [IntKind.wrap_u64]; omega
theorem wrapM (a : Nat) : IntKind.u64.wrap (a : Int) = ((a % 18446744073709551616 : Nat) : Int) := by rw [IntKind.wrap_u64]; omega
end Mul
theorem mul60 (x y : Nat) (hx : x < 18446744073709551616) (hy : y < 18446744073709551616) (w : World) :
 Calls Tryz.prog 81 #[.int .u64 x, .int .u64 y] w fun e w' => e = .returned (.tuple #[.int .u64 ((x * y / 18446744073709551616 : Nat) : Int), .int .u64 ((x * y % 18446744073709551616 : Nat) : Int)]) /\ w' = w := by
 obtain ⟨bd, bt, bw, hhi⟩ := Lib.mul64_hi x y hx hy
 have ba := Lib.half_mul_le (a := x / 4294967296) (b := y / 4294967296) (by omega) (by omega)
 have bb := Lib.half_mul_le (a := x / 4294967296) (b := y % 4294967296) (by omega) (by omega)
 have bc := Lib.half_mul_le (a := x % 4294967296) (b := y / 4294967296) (by omega) (by omega)
 have ba' : x / 4294967296 * (y / 4294967296) < 18446744073709551616 := by omega
 have bb' : x / 4294967296 * (y % 4294967296) < 18446744073709551616 := by omega
 have bc' : x % 4294967296 * (y / 4294967296) < 18446744073709551616 := by omega
 have hlt : x * y / 18446744073709551616 < 18446744073709551616 := by
  apply Nat.div_lt_of_lt_mul
  exact Nat.mul_lt_mul'' hx hy
 have bh : x / 4294967296 * (y / 4294967296) + (x / 4294967296 * (y % 4294967296) + x % 4294967296 * (y % 4294967296) / 4294967296) / 4294967296 + ((x / 4294967296 * (y % 4294967296) + x % 4294967296 * (y % 4294967296) / 4294967296) % 4294967296 + x % 4294967296 * (y / 4294967296)) / 4294967296 < 18446744073709551616 := by rw [hhi]; exact hlt
 have bh1 : x / 4294967296 * (y / 4294967296) + (x / 4294967296 * (y % 4294967296) + x % 4294967296 * (y % 4294967296) / 4294967296) / 4294967296 < 18446744073709551616 := by omega
 go_enter Tryz.func81, Tryz.ntmps81
 go_wp2
 simp only [Mul.maskN x hx, Mul.maskN y hy, Mul.divN, Mul.mulN, Mul.addN, Mul.wrapN _ bd, Mul.wrapN _ bb', Mul.wrapN _ bt, Mul.maskN _ bt, Mul.wrapN _ bc', Mul.wrapN _ bw, Mul.wrapN _ ba', Mul.wrapN _ bh1, Mul.wrapN _ bh, Mul.wrapM (x * y)]
 rw [hhi]
 go_ret2
 exact ⟨rfl, rfl⟩
theorem add64 (x y c : Nat) (hx : x < 18446744073709551616) (hy : y < 18446744073709551616) (hc : c <= 1) (w : World) :
 (callFunc 82 #[.int .u64 (x : Int), .int .u64 (y : Int), .int .u64 (c : Int)]).run Tryz.prog w =
   .ok (.value (.tuple #[.int .u64 (((x + y + c) % 18446744073709551616 : Nat) : Int), .int .u64 (((x + y + c) / 18446744073709551616 : Nat) : Int)])) w := by
 rw [run_callFunc_extern Tryz.func82 (by kernel_rfl) (by kernel_rfl) (by kernel_rfl) (e := add64Entry) (by kernel_rfl), run_add64 x y c (by omega) (by omega) (by omega) (by omega)]
 simp only [Result.andThen]
 congr 5 <;> omega
theorem len10 (w : World) : Calls Tryz.prog 170 #[.int .u64 10] w fun e w' => e = .returned (.int .i64 4) /\ w' = w := by
 go_enter Tryz.func170, Tryz.ntmps170
 go_wp2
 go_ret
 exact ⟨by kernel_rfl, rfl⟩
theorem lead10 (w : World) : Calls Tryz.prog 145 #[.int .u64 10] w fun e w' => e = .returned (.int .i64 60) /\ w' = w := by
 go_enter Tryz.func145, Tryz.ntmps145
 go_wp2_with (go_at_call 170; refine (len10 _).mono ?_; rintro e w' ⟨rfl, rfl⟩)
 go_ret
 exact ⟨rfl, rfl⟩
end Go.Proofs.YtpfiejmhnkcjbaaGreatDoor.D6
namespace Go.Proofs.YtpfiejmhnkcjbaaGreatDoor.D6
set_option maxHeartbeats 1000000
set_option maxRecDepth 100000
open Go.RowKit
set_option linter.unusedVariables false
theorem grow_dq (w : World) (q : Nat) : Grow w (w.drewN q) := ⟨rfl, rfl, rfl, Nat.le_refl _, fun _ _ => rfl⟩
theorem ret_pair {a b c d : Int} (h : a = b) (h2 : c = d) : Ending.returned (.tuple #[.int .u64 a, .int .u64 c]) = .returned (.tuple #[.int .u64 b, .int .u64 d]) := by rw [h, h2]
theorem div_small (l : Nat) (hl : l < 18446744073709551616) (w : World) :
 Calls Tryz.prog 112 #[.int .u64 0, .int .u64 (l : Int), .int .u64 10] w fun e w' => e = .returned (.tuple #[.int .u64 ((l / 10 : Nat) : Int), .int .u64 ((l % 10 : Nat) : Int)]) /\ Grow w w' := by
 go_enter Tryz.func112, Tryz.ntmps112
 go_wp2
 go_quiet (fail)
 go_wp2
 go_ret2
 exact ⟨ret_pair (by omega) (by omega), grow_dq _ _⟩
theorem or_split (h x : Nat) (hh : h < 10) (hx : x < 1152921504606846976) : bits .or .u64 ((h : Int) * 1152921504606846976) (x : Int) = ((h * 1152921504606846976 + x : Nat) : Int) := by
 have e : (h : Int) * 1152921504606846976 = ((h * 1152921504606846976 : Nat) : Int) := by omega
 rw [e, bits_or_u64_nat _ _ (by omega) (by omega)]
 congr 1
 have := Nat.two_pow_add_eq_or_of_lt (i := 60) (b := x) (by simpa using hx) h
 have e2 : 2 ^ 60 * h = h * 1152921504606846976 := by omega
 rw [e2] at this
 exact this.symm
theorem v_div (x : Nat) : x * 1152921504606846976 / 4294967296 * 4294967296 = x * 1152921504606846976 := by omega
theorem dv_i1 (U q1 r1 v1 X : Nat) (hU : U = 2684354560 * q1 + r1) (hX : r1 * 4294967296 + v1 = X) (c2 : r1 < 2684354560) (c4 : v1 < 4294967296) :
 IntKind.u64.wrap (IntKind.u64.wrap (IntKind.u64.wrap ((U : Int) * 4294967296) + (v1 : Int)) - IntKind.u64.wrap ((q1 : Int) * 11529215046068469760)) = (X : Int) := by
 have e : (U : Int) * 4294967296 + (v1 : Int) - (q1 : Int) * 11529215046068469760 = (X : Int) := by omega
 simp only [IntKind.wrap_u64]
 rw [Int.emod_add_emod, <- Int.sub_emod, e]
 omega
theorem dv_j1 (X q0 : Nat) (hq0 : X / 2684354560 = q0) (d1 : q0 < 4294967296) : IntKind.u64.wrap ((X : Int) / 2684354560) = (q0 : Int) := by
 rw [show (X : Int) / 2684354560 = ((X / 2684354560 : Nat) : Int) from rfl, hq0, IntKind.wrap_u64]
 omega
theorem dv_j2 (X q0 r0 : Nat) (hX : X = 2684354560 * q0 + r0) (d1 : q0 < 4294967296) (d2 : r0 < 2684354560) : IntKind.u64.wrap ((X : Int) - (q0 : Int) * 2684354560) = (r0 : Int) := by
 rw [IntKind.wrap_u64, show (X : Int) - (q0 : Int) * 2684354560 = (r0 : Int) by omega]
 omega
theorem dv_sb (x : Int) : ∃ S : Nat, IntKind.u64.wrap x = (S : Int) /\ S < 18446744073709551616 := ⟨(IntKind.u64.wrap x).toNat, by simp only [IntKind.wrap_u64]; omega, by simp only [IntKind.wrap_u64]; omega⟩
theorem dv_s (x : Int) : ∃ S : Nat, IntKind.u64.wrap x = (S : Int) := ⟨(IntKind.u64.wrap x).toNat, by simp only [IntKind.wrap_u64]; omega⟩
theorem dv_A (q1 q0 A : Nat) (h1 : q1 < 4294967296) (h0 : q0 < 4294967296) (hA : IntKind.u64.wrap (IntKind.u64.wrap ((q1 : Int) * 4294967296) + (q0 : Int)) = (A : Int)) : A = q1 * 4294967296 + q0 := by
 simp only [IntKind.wrap_u64] at hA
 rw [Int.emod_add_emod] at hA
 omega
theorem dv_D (X q0 r0 B D : Nat) (hX : X = 2684354560 * q0 + r0) (h0 : r0 < 2684354560) (hB : IntKind.u64.wrap ((X : Int) * 4294967296) = (B : Int)) (hD : IntKind.u64.wrap ((B : Int) - IntKind.u64.wrap ((q0 : Int) * 11529215046068469760)) = (D : Int)) : D = r0 * 4294967296 := by
 rw [<- hB] at hD
 simp only [IntKind.wrap_u64] at hD
 rw [<- Int.sub_emod, show (X : Int) * 4294967296 - (q0 : Int) * 11529215046068469760 = ((r0 * 4294967296 : Nat) : Int) by omega] at hD
 omega
theorem dv_s1 (v1 d V : Nat) (e2 : v1 * 4294967296 = V) (hV : d * 1152921504606846976 = V) : v1 = d * 268435456 := by omega
theorem dv_s2 (U q1 r1 v1 X q0 r0 : Nat) (e1 : U = 2684354560 * q1 + r1) (e3 : X = 2684354560 * q0 + r0) (e4 : r1 * 4294967296 + v1 = X) : 2684354560 * (q1 * 4294967296 + q0) + r0 = U * 4294967296 + v1 := by omega
theorem dv_s3 (h c d : Nat) : (h * 18446744073709551616 + (16 * c + d)) * 268435456 = (h * 1152921504606846976 + c) * 4294967296 + d * 268435456 := by omega
theorem dv_N (h l U V q1 r1 v1 X q0 r0 : Nat) (hU : h * 1152921504606846976 + l / 16 = U) (hV : l % 16 * 1152921504606846976 = V) (e1 : U = 2684354560 * q1 + r1) (e2 : v1 * 4294967296 = V) (e3 : X = 2684354560 * q0 + r0) (e4 : r1 * 4294967296 + v1 = X) :
 (h * 18446744073709551616 + l) * 268435456 = 2684354560 * (q1 * 4294967296 + q0) + r0 := by
 rw [dv_s2 U q1 r1 v1 X q0 r0 e1 e3 e4, dv_s1 v1 (l % 16) V e2 hV, <- hU, <- dv_s3, Nat.div_add_mod]
theorem dv_fin (N A r0 D : Nat) (hN : N * 268435456 = 2684354560 * A + r0) (h0 : r0 < 2684354560) (hD : D = r0 * 4294967296) : A = N / 10 /\ D / 1152921504606846976 = N % 10 := by omega
theorem div_great (h l : Nat) (h0 : 0 < h) (h1 : h < 10) (hl : l < 18446744073709551616) (w : World) :
 Calls Tryz.prog 112 #[.int .u64 (h : Int), .int .u64 (l : Int), .int .u64 10] w fun e w' => e = .returned (.tuple #[.int .u64 (((h * 18446744073709551616 + l) / 10 : Nat) : Int), .int .u64 (((h * 18446744073709551616 + l) % 10 : Nat) : Int)]) /\ Grow w w' := by
 have e1 : bits .or .u64 ((h : Int) * 1152921504606846976) ((l : Int) / 16) = ((h * 1152921504606846976 + l / 16 : Nat) : Int) := by
  have := or_split h (l / 16) h1 (by omega)
  rw [<- this]
  congr 1
 have e2 : bits .and .u64 11529215046068469760 4294967295 = 0 := by decide +kernel
 have e3 : IntKind.u64.wrap ((l : Int) * 1152921504606846976) = (((l % 16) * 1152921504606846976 : Nat) : Int) := by rw [IntKind.wrap_u64]; omega
 have e4 : bits .and .u64 (((l % 16) * 1152921504606846976 : Nat) : Int) 4294967295 = 0 := by
  rw [Mul.maskN _ (by omega)]
  have : (l % 16) * 1152921504606846976 % 4294967296 = 0 := by omega
  rw [this]
  rfl
 obtain ⟨U, hU⟩ : ∃ U, h * 1152921504606846976 + l / 16 = U := ⟨_, rfl⟩
 obtain ⟨V, hV⟩ : ∃ V, (l % 16) * 1152921504606846976 = V := ⟨_, rfl⟩
 have HR : Hid (h * 1152921504606846976 + l / 16 = U /\ (l % 16) * 1152921504606846976 = V) := ⟨hU, hV⟩
 rw [hU] at e1
 rw [hV] at e3 e4
 have bU : U < 11529215046068469760 := by omega
 have bV : V < 18446744073709551616 := by omega
 obtain ⟨q1, hq1⟩ : ∃ q1, U / 2684354560 = q1 := ⟨_, rfl⟩
 obtain ⟨r1, hr1⟩ : ∃ r1, U % 2684354560 = r1 := ⟨_, rfl⟩
 obtain ⟨v1, hv1⟩ : ∃ v1, V / 4294967296 = v1 := ⟨_, rfl⟩
 have c1 : q1 < 4294967296 := by omega
 have c2 : r1 < 2684354560 := by omega
 have c4 : v1 < 4294967296 := by omega
 have HU : Hid (U = 2684354560 * q1 + r1) := by rw [<- hq1, <- hr1]; exact (Nat.div_add_mod U 2684354560).symm
 have HV : Hid (v1 * 4294967296 = V) := by
  have := v_div (l % 16)
  rw [HR.out.2, hv1] at this
  exact this
 have f1 : (U : Int) / 2684354560 = (q1 : Int) := by omega
 have f2 : (U : Int) - (q1 : Int) * 2684354560 = (r1 : Int) := by omega
 have f3 : (V : Int) / 4294967296 = (v1 : Int) := by omega
 clear hU hV hq1 hr1 hv1
 go_enter Tryz.func112, Tryz.ntmps112
 go_wp2_with (go_at_call 145; refine (lead10 _).mono ?_; rintro e w' ⟨rfl, rfl⟩)
 clear e1 e2 e3 e4
 go_loopw [15, 16] (fun q r wr => q = .int .u64 (q1 : Int) /\ r = .int .u64 (r1 : Int) /\ wr = w') (fun _ _ _ => 0)
 case atStart => exact ⟨rfl, rfl, rfl⟩
 case round =>
  obtain ⟨rfl, rfl, rfl⟩ := hrel
  clear f1 f2 f3 bU bV
  obtain ⟨S, hS⟩ : ∃ S : Nat, IntKind.u64.wrap (IntKind.u64.wrap (4294967296 * (r1 : Int)) + (v1 : Int)) = (S : Int) := dv_s _
  have g2 : ¬ (4294967296 : Int) <= (q1 : Int) := by omega
  obtain ⟨X, hX⟩ : ∃ X : Nat, r1 * 4294967296 + v1 = X := ⟨_, rfl⟩
  have i1 : IntKind.u64.wrap (IntKind.u64.wrap (IntKind.u64.wrap ((U : Int) * 4294967296) + (v1 : Int)) - IntKind.u64.wrap ((q1 : Int) * 11529215046068469760)) = (X : Int) := by
   exact dv_i1 U q1 r1 v1 X HU.out hX c2 c4
  obtain ⟨q0, hq0⟩ : ∃ q0, X / 2684354560 = q0 := ⟨_, rfl⟩
  obtain ⟨r0, hr0⟩ : ∃ r0, X % 2684354560 = r0 := ⟨_, rfl⟩
  have d1 : q0 < 4294967296 := by omega
  have d2 : r0 < 2684354560 := by omega
  have HX : Hid (X = 2684354560 * q0 + r0 /\ r1 * 4294967296 + v1 = X /\ q0 < 4294967296 /\ r0 < 2684354560 /\ q1 < 4294967296) := by rw [<- hq0, <- hr0]; exact ⟨(Nat.div_add_mod X 2684354560).symm, hX, by omega, by omega, c1⟩
  have j1 : IntKind.u64.wrap ((X : Int) / 2684354560) = (q0 : Int) := by
   exact dv_j1 X q0 hq0 d1
  have j2 : IntKind.u64.wrap ((X : Int) - (q0 : Int) * 2684354560) = (r0 : Int) := by
   exact dv_j2 X q0 r0 HX.out.1 d1 d2
  have g3 : ¬ (4294967296 : Int) <= (q0 : Int) := by omega
  clear c1 c2 c4 d1 d2 hX hq0 hr0
  go_wp2
  clear hS i1 j1 j2 g2
  go_loopw [18, 16] (fun q r wr2 => q = .int .u64 (q0 : Int) /\ r = .int .u64 (r0 : Int) /\ wr2 = wr) (fun _ _ _ => 0)
  case atStart => exact ⟨rfl, rfl, rfl⟩
  case round =>
   obtain ⟨rfl, rfl, rfl⟩ := hrel
   have g5 : ¬ (4294967296 : Int) <= (q0 : Int) := by omega
   clear g3
   obtain ⟨S2, hS2, bS2⟩ : ∃ S : Nat, IntKind.u64.wrap (4294967296 * (r0 : Int)) = (S : Int) /\ S < 18446744073709551616 := dv_sb _
   obtain ⟨A, hA⟩ : ∃ S : Nat, IntKind.u64.wrap (IntKind.u64.wrap ((q1 : Int) * 4294967296) + (q0 : Int)) = (S : Int) := dv_s _
   obtain ⟨B, hB, bB⟩ : ∃ S : Nat, IntKind.u64.wrap ((X : Int) * 4294967296) = (S : Int) /\ S < 18446744073709551616 := dv_sb _
   obtain ⟨D, hD⟩ : ∃ S : Nat, IntKind.u64.wrap ((B : Int) - IntKind.u64.wrap ((q0 : Int) * 11529215046068469760)) = (S : Int) := dv_s _
   have HF : Hid (A = (h * 18446744073709551616 + l) / 10 /\ D / 1152921504606846976 = (h * 18446744073709551616 + l) % 10) := by
    obtain ⟨x1, x2, x3, x4, x5⟩ := HX.out
    have y1 := dv_A q1 q0 A x5 x3 hA
    have y2 := dv_D X q0 r0 B D x1 x4 hB hD
    have y3 := dv_N h l U V q1 r1 v1 X q0 r0 HR.out.1 HR.out.2 HU.out HV.out x1 x2
    rw [<- y1] at y3
    exact dv_fin _ A r0 D y3 x4 y2
   go_wp2
   go_ret2
   exact ⟨ret_pair (by rw [HF.out.1]; simp) (by rw [show (D : Int) / 1152921504606846976 = ((D / 1152921504606846976 : Nat) : Int) from rfl, HF.out.2]; simp), Grow.refl _⟩
theorem div_ten (h l : Nat) (h1 : h < 10) (hl : l < 18446744073709551616) (w : World) :
 Calls Tryz.prog 112 #[.int .u64 (h : Int), .int .u64 (l : Int), .int .u64 10] w fun e w' => e = .returned (.tuple #[.int .u64 (((h * 18446744073709551616 + l) / 10 : Nat) : Int), .int .u64 (((h * 18446744073709551616 + l) % 10 : Nat) : Int)]) /\ Grow w w' := by
 by_cases h0 : h = 0
 . subst h0
   have := div_small l hl w
   simpa using this
 . exact div_great h l (by omega) h1 hl w
end Go.Proofs.YtpfiejmhnkcjbaaGreatDoor.D6
namespace Go.Proofs.YtpfiejmhnkcjbaaGreatDoor.D6
set_option linter.unusedVariables false
def dnN : Nat -> Nat -> Nat × Nat
 | m, 0 => (m, 0)
 | m, s + 1 => if m % 10 = 0 then dnN (m / 10) s else (m, s + 1)
def dn (z : Int) (s : Nat) : Int × Nat := (if z < 0 then -((dnN z.natAbs s).1 : Int) else ((dnN z.natAbs s).1 : Int), (dnN z.natAbs s).2)
theorem ten_pos (n : Nat) : 0 < 10 ^ n := Nat.pow_pos (by decide)
theorem dnN_le : ∀ (s m : Nat), (dnN m s).2 <= s
 | 0, m => by simp [dnN]
 | s + 1, m => by
   unfold dnN
   split
   . have := dnN_le s (m / 10); omega
   . exact Nat.le_refl _
theorem dnN_small : ∀ (s m : Nat), (dnN m s).1 <= m
 | 0, m => by simp [dnN]
 | s + 1, m => by
   unfold dnN
   split
   . have := dnN_small s (m / 10); omega
   . exact Nat.le_refl _
theorem dnN_val : ∀ (s m : Nat), (dnN m s).1 * 10 ^ (s - (dnN m s).2) = m
 | 0, m => by simp [dnN]
 | s + 1, m => by
   unfold dnN
   split
   . next h =>
     have h1 := dnN_val s (m / 10)
     have h2 := dnN_le s (m / 10)
     rw [show s + 1 - (dnN (m / 10) s).2 = (s - (dnN (m / 10) s).2) + 1 by omega, Nat.pow_succ, <- Nat.mul_assoc, h1]
     omega
   . simp
theorem dnN_zero : ∀ (s : Nat), dnN 0 s = (0, 0)
 | 0 => rfl
 | s + 1 => by
   unfold dnN
   rw [if_pos (by decide), show 0 / 10 = 0 by decide]
   exact dnN_zero s
theorem natAbs_dn (z : Int) (s : Nat) : (dn z s).1.natAbs = (dnN z.natAbs s).1 := by
 unfold dn
 simp only
 split <;> omega
def fits (d : Int × Nat) : Bool := decide (d.2 <= 18) && decide (-9223372036854775808 <= d.1) && decide (d.1 < 9223372036854775808)
def res (z : Int) (s : Nat) : Option (Int × Nat) := if fits (dn z s) then some (dn z s) else none
structure Nu (y : Int) (t : Nat) : Prop where
 n0 : -9223372036854775808 <= y
 n1 : y < 9223372036854775808
 t1 : t <= 18
 red : t = 0 ∨ y % 10 ≠ 0
end Go.Proofs.YtpfiejmhnkcjbaaGreatDoor.D6
namespace Go.Proofs.YtpfiejmhnkcjbaaGreatDoor.D6
set_option maxRecDepth 8000
open Go.RowKit
set_option linter.unusedVariables false
theorem blk_at {X : World} {t : TypeId} {vs : List Value} {b : Nat} (hb : X.heap.size = b) : Blk (X.alloc (.cells vs.toArray t)) b t vs := hb ▸ blk_new X t vs
theorem ones {l : List Value} (h : l.all Value.oneCell' = true) : ∀ v ∈ l, v.oneCell' = true := List.all_eq_true.1 h
theorem sW : (Tryz.prog.info? 97).map (·.size) = some 2 := by kernel_rfl
theorem sN : (Tryz.prog.info? 102).map (·.size) = some 4 := by kernel_rfl
theorem sV : (Tryz.prog.info? 41).map (·.size) = some 6 := by kernel_rfl
theorem sR : (Tryz.prog.info? 75).map (·.size) = some 3 := by kernel_rfl
structure Wd (h l m : Nat) : Prop where
 eq : h * 18446744073709551616 + l = m
 l1 : l < 18446744073709551616
 h1 : h < 18446744073709551616
theorem wd_of (m : Nat) (hm : m < 340282366920938463463374607431768211456) : ∃ h l, Wd h l m := ⟨m / 18446744073709551616, m % 18446744073709551616, by omega, by omega, by omega⟩
theorem product_any (a b h l : Nat) (ha : a < 18446744073709551616) (hb : b < 18446744073709551616) (hw : Wd h l (a * b)) (w : World) :
 Calls Tryz.prog 73 #[.int .u64 (a : Int), .int .u64 (b : Int)] w fun e w' => e = .returned (.agg #[.int .u64 (h : Int), .int .u64 (l : Int)]) /\ Grow w w' := by
 have k := fun W => mul60 a b ha hb W
 rw [show a * b / 18446744073709551616 = h by rw [<- hw.eq]; have := hw.l1; omega, show a * b % 18446744073709551616 = l by rw [<- hw.eq]; have := hw.l1; omega] at k
 have HK : Hid (∀ W, Calls Tryz.prog 81 #[.int .u64 (a : Int), .int .u64 (b : Int)] W fun e w' => e = .returned (.tuple #[.int .u64 (h : Int), .int .u64 (l : Int)]) /\ w' = W) := k
 clear k hw ha hb
 go_enter Tryz.func73, Tryz.ntmps73
 go_wp2_with (go_at_call 81; refine (HK.out _).mono ?_; rintro e w' ⟨rfl, rfl⟩)
 exact bodyPost_ret (res_row rfl _ w.heap.size 97 _ _ rfl (blk_at rfl) Tryz.underlying97 rfl sW) rfl ⟨rfl, (Grow.refl _).alloc _⟩
theorem run_add {h1 l1 h2 l2 h l m1 m2 : Nat} (a : Wd h1 l1 m1) (b : Wd h2 l2 m2) (s : Wd h l (m1 + m2)) : ∃ c : Nat, c <= 1 /\ l1 + l2 = c * 18446744073709551616 + l /\ h1 + h2 + c = h := by
 obtain ⟨a1, a2, a3⟩ := a
 obtain ⟨b1, b2, b3⟩ := b
 obtain ⟨s1, s2, s3⟩ := s
 by_cases e : l1 + l2 < 18446744073709551616
 . exact ⟨0, by omega, by omega, by omega⟩
 . exact ⟨1, by omega, by omega, by omega⟩
theorem plusW (h1 l1 m1 h2 l2 m2 h l : Nat) (a : Wd h1 l1 m1) (b : Wd h2 l2 m2) (s : Wd h l (m1 + m2)) (w : World) :
 Calls Tryz.prog 76 #[.agg #[.int .u64 (h1 : Int), .int .u64 (l1 : Int)], .agg #[.int .u64 (h2 : Int), .int .u64 (l2 : Int)]] w fun e w' => e = .returned (.agg #[.int .u64 (h : Int), .int .u64 (l : Int)]) /\ Grow w w' := by
 obtain ⟨c, hc, e1, e2⟩ := run_add a b s
 have k1 : ∀ W, (callFunc 82 #[.int .u64 (l1 : Int), .int .u64 (l2 : Int), .int .u64 0]).run Tryz.prog W = .ok (.value (.tuple #[.int .u64 (l : Int), .int .u64 (c : Int)])) W := fun W => by
  have := add64 l1 l2 0 a.l1 b.l1 (by omega) W
  rw [show (l1 + l2 + 0) % 18446744073709551616 = l by have := s.l1; omega, show (l1 + l2 + 0) / 18446744073709551616 = c by have := s.l1; omega] at this
  exact this
 have k2 : ∀ W, (callFunc 82 #[.int .u64 (h1 : Int), .int .u64 (h2 : Int), .int .u64 (c : Int)]).run Tryz.prog W = .ok (.value (.tuple #[.int .u64 (h : Int), .int .u64 0])) W := fun W => by
  have := add64 h1 h2 c a.h1 b.h1 hc W
  rw [show (h1 + h2 + c) % 18446744073709551616 = h by have := s.h1; omega, show (h1 + h2 + c) / 18446744073709551616 = 0 by have := s.h1; omega] at this
  exact this
 clear a b s hc e1 e2
 go_enter Tryz.func76, Tryz.ntmps76
 go_wp2
 exact bodyPost_ret (res_row rfl _ (w.heap.size + 2) 97 _ _ rfl (blk_at (by simp)) Tryz.underlying97 rfl sW) rfl ⟨rfl, (((Grow.refl _).alloc _).alloc _).alloc _⟩
theorem tenth_split {h l m : Nat} (a : Wd h l m) : (h / 10) * 18446744073709551616 + ((h % 10) * 18446744073709551616 + l) / 10 = m / 10 /\ ((h % 10) * 18446744073709551616 + l) / 10 < 18446744073709551616 /\ ((h % 10) * 18446744073709551616 + l) % 10 = m % 10 := by
 obtain ⟨a1, a2, a3⟩ := a
 subst a1
 refine ⟨?_, ?_, ?_⟩ <;> omega
theorem tenthW (h l m h' l' : Nat) (a : Wd h l m) (s : Wd h' l' (m / 10)) (r : Nat) (hr : m % 10 = r) (w : World) :
 Calls Tryz.prog 127 #[.agg #[.int .u64 (h : Int), .int .u64 (l : Int)]] w fun e w' => e = .returned (.tuple #[.agg #[.int .u64 (h' : Int), .int .u64 (l' : Int)], .int .u64 (r : Int)]) /\ Grow w w' := by
 obtain ⟨t1, t2, t3⟩ := tenth_split a
 have eh : h / 10 = h' := by have := s.eq; have := s.l1; omega
 have el : ((h % 10) * 18446744073709551616 + l) / 10 = l' := by have := s.eq; have := s.l1; omega
 obtain ⟨g, hg⟩ : ∃ g, h % 10 = g := ⟨_, rfl⟩
 have k := fun W => div_ten g l (by omega) a.l1 W
 rw [<- hg, el, t3, hr, hg] at k
 have HK : Hid (∀ W, Calls Tryz.prog 112 #[.int .u64 (g : Int), .int .u64 (l : Int), .int .u64 10] W fun e w' => e = .returned (.tuple #[.int .u64 (l' : Int), .int .u64 (r : Int)]) /\ Grow W w') := k
 have f1 : (h : Int) / 10 = (h' : Int) := by omega
 have f2 : (h : Int) % 10 = (g : Int) := by omega
 have hb : h < 18446744073709551616 := a.h1
 clear k t1 t2 t3 eh el hg a s hr
 go_enter Tryz.func127, Tryz.ntmps127
 go_wp2
 go_quiet (fail)
 go_wp2_with fail
 obtain ⟨w1, HG1, HB1⟩ : ∃ w1, Hid (Grow w w1 /\ Blk w1 (w.heap.size + 1) 97 [.int .u64 0, .int .u64 0]) /\ ((w.alloc (Obj.cells #[Value.int IntKind.u64 (h : Int), Value.int IntKind.u64 (l : Int)] 97)).alloc (Obj.cells #[Value.int IntKind.u64 0, Value.int IntKind.u64 0] 97)).drewN nq = w1 :=
  ⟨_, ⟨(((Grow.refl _).alloc _).alloc _).trans (grow_dq _ _), (blk_at (by simp)).grow (grow_dq _ _)⟩, rfl⟩
 rw [HB1]
 refine (HK.out _).mono ?_
 rintro e w2 ⟨rfl, hg⟩
 have HB2 : Hid (Blk w2 (w.heap.size + 1) 97 [.int .u64 0, .int .u64 0]) := HG1.out.2.grow hg
 have HG2 : Hid (Grow w w2) := HG1.out.1.trans hg
 clear HB1 HG1 HK hg
 go_wp2_with (refine st_all rfl 97 (.tmp 2) (.tmp 22) rfl (w.heap.size + 1) 97 [.int .u64 0, .int .u64 0] [.int .u64 (h' : Int), .int .u64 (l' : Int)] rfl rfl HB2.out rfl sW (ones rfl) ?_)
 intro w3 b3 g3
 have HB3 : Hid (Blk w3 (w.heap.size + 1) 97 [.int .u64 (h' : Int), .int .u64 (l' : Int)]) := b3
 have HG3 : Hid (Grow w w3) := Below.grown HG2.out g3 HG2.out.size (by intro k hk; injection hk with hk; omega)
 clear b3 g3
 go_wp2
 exact bodyPost_ret (res_two rfl _ (w.heap.size + 1) 97 _ _ rfl HB3.out Tryz.underlying97 rfl sW) rfl ⟨rfl, HG3.out⟩
end Go.Proofs.YtpfiejmhnkcjbaaGreatDoor.D6
namespace Go.Proofs.YtpfiejmhnkcjbaaGreatDoor.D6
set_option maxRecDepth 8000
open Go.RowKit
set_option linter.unusedVariables false
theorem numberOf_any (n s : Int) (A : Nat) (hA : n.natAbs = A) (b : Bool) (hb : decide (n < 0) = b) (h0 : -9223372036854775808 <= n) (h1 : n < 9223372036854775808) (w : World) :
 Calls Tryz.prog 165 #[.int .i64 n, .int .i64 s] w fun e w' => e = .returned (.agg #[.bool b, .int .u64 0, .int .u64 (A : Int), .int .i64 s]) /\ Grow w w' := by
 cases b
 . have hn : ¬ n < 0 := by simpa using hb
   have e : n = (A : Int) := by omega
   subst e
   clear hb hA
   go_enter Tryz.func165, Tryz.ntmps165
   go_wp2
   exact bodyPost_ret (res_row rfl _ w.heap.size 102 _ _ rfl (blk_at rfl) Tryz.underlying102 rfl sN) rfl ⟨rfl, (Grow.refl _).alloc _⟩
 . have hn : n < 0 := by simpa using hb
   have e : IntKind.u64.wrap (-IntKind.u64.wrap n) = (A : Int) := by simp only [IntKind.wrap_u64]; omega
   clear hb hA
   go_enter Tryz.func165, Tryz.ntmps165
   go_wp2
   exact bodyPost_ret (res_row rfl _ w.heap.size 102 _ _ rfl (blk_at rfl) Tryz.underlying102 rfl sN) rfl ⟨rfl, (Grow.refl _).alloc _⟩
end Go.Proofs.YtpfiejmhnkcjbaaGreatDoor.D6
namespace Go.Proofs.YtpfiejmhnkcjbaaGreatDoor.D6
open Go.RowKit
set_option linter.unusedVariables false
end Go.Proofs.YtpfiejmhnkcjbaaGreatDoor.D6
namespace Go.Proofs.YtpfiejmhnkcjbaaGreatDoor.D6
open Go.RowKit
set_option linter.unusedVariables false
theorem zW : (Tryz.prog.info? 97).map (fun i => i.zero.map (·.cells)) = some (some (List.toArray [.int .u64 0, .int .u64 0])) := by kernel_rfl
end Go.Proofs.YtpfiejmhnkcjbaaGreatDoor.D6
