/-
  math/bits.Div64 by ten.
-/
import Derived.Test.YtpfiejmhnkcjbaaGreatDoorEG28x
import Derived.Deep.Cut
namespace Go.Proofs.YtpfiejmhnkcjbaaGreatDoor.D6
open Go.RowKit
set_option linter.unusedVariables false
theorem grow_dq (w : World) (q : Nat) : Grow w (w.drewN q) := ⟨rfl, rfl, rfl, Nat.le_refl _, fun _ _ => rfl⟩
theorem ret_pair {a b c d : Int} (h : a = b) (h2 : c = d) : Ending.returned (.tuple #[.int .u64 a, .int .u64 c]) = .returned (.tuple #[.int .u64 b, .int .u64 d]) := by rw [h, h2]
theorem div_small (l : Nat) (hl : l < 18446744073709551616) (w : World) :
    Calls Tryz.prog 112 #[.int .u64 0, .int .u64 (l : Int), .int .u64 10] w fun e w' => e = .returned (.tuple #[.int .u64 ((l / 10 : Nat) : Int), .int .u64 ((l % 10 : Nat) : Int)]) ∧ Grow w w' := by
  go_enter Tryz.func112, Tryz.ntmps112
  go_wp2
  go_quiet (fail)
  go_wp2
  go_ret2
  exact ⟨ret_pair (by omega) (by omega), grow_dq _ _⟩
theorem or_split (h x : Nat) (hh : h < 10) (hx : x < 1152921504606846976) : bits .or .u64 ((h : Int) * 1152921504606846976) (x : Int) = ((h * 1152921504606846976 + x : Nat) : Int) := by
  have e : (h : Int) * 1152921504606846976 = ((h * 1152921504606846976 : Nat) : Int) := by omega
  rw [e, bits_or_u64_nat _ _ (by omega) (by omega)]
  congr 1
  have := Nat.two_pow_add_eq_or_of_lt (i := 60) (b := x) (by simpa using hx) h
  have e2 : 2 ^ 60 * h = h * 1152921504606846976 := by omega
  rw [e2] at this
  exact this.symm
theorem v_div (x : Nat) : x * 1152921504606846976 / 4294967296 * 4294967296 = x * 1152921504606846976 := by omega
theorem dv_i1 (U q1 r1 v1 X : Nat) (hU : U = 2684354560 * q1 + r1) (hX : r1 * 4294967296 + v1 = X) (c2 : r1 < 2684354560) (c4 : v1 < 4294967296) :
    IntKind.u64.wrap (IntKind.u64.wrap (IntKind.u64.wrap ((U : Int) * 4294967296) + (v1 : Int)) - IntKind.u64.wrap ((q1 : Int) * 11529215046068469760)) = (X : Int) := by
  have e : (U : Int) * 4294967296 + (v1 : Int) - (q1 : Int) * 11529215046068469760 = (X : Int) := by omega
  simp only [IntKind.wrap_u64]
  rw [Int.emod_add_emod, ← Int.sub_emod, e]
  omega
theorem dv_j1 (X q0 : Nat) (hq0 : X / 2684354560 = q0) (d1 : q0 < 4294967296) : IntKind.u64.wrap ((X : Int) / 2684354560) = (q0 : Int) := by
  rw [show (X : Int) / 2684354560 = ((X / 2684354560 : Nat) : Int) from rfl, hq0, IntKind.wrap_u64]
  omega
theorem dv_j2 (X q0 r0 : Nat) (hX : X = 2684354560 * q0 + r0) (d1 : q0 < 4294967296) (d2 : r0 < 2684354560) : IntKind.u64.wrap ((X : Int) - (q0 : Int) * 2684354560) = (r0 : Int) := by
  rw [IntKind.wrap_u64, show (X : Int) - (q0 : Int) * 2684354560 = (r0 : Int) by omega]
  omega
theorem dv_sb (x : Int) : ∃ S : Nat, IntKind.u64.wrap x = (S : Int) ∧ S < 18446744073709551616 := ⟨(IntKind.u64.wrap x).toNat, by simp only [IntKind.wrap_u64]; omega, by simp only [IntKind.wrap_u64]; omega⟩
theorem dv_s (x : Int) : ∃ S : Nat, IntKind.u64.wrap x = (S : Int) := ⟨(IntKind.u64.wrap x).toNat, by simp only [IntKind.wrap_u64]; omega⟩
theorem dv_A (q1 q0 A : Nat) (h1 : q1 < 4294967296) (h0 : q0 < 4294967296) (hA : IntKind.u64.wrap (IntKind.u64.wrap ((q1 : Int) * 4294967296) + (q0 : Int)) = (A : Int)) : A = q1 * 4294967296 + q0 := by
  simp only [IntKind.wrap_u64] at hA
  rw [Int.emod_add_emod] at hA
  omega
theorem dv_D (X q0 r0 B D : Nat) (hX : X = 2684354560 * q0 + r0) (h0 : r0 < 2684354560) (hB : IntKind.u64.wrap ((X : Int) * 4294967296) = (B : Int)) (hD : IntKind.u64.wrap ((B : Int) - IntKind.u64.wrap ((q0 : Int) * 11529215046068469760)) = (D : Int)) : D = r0 * 4294967296 := by
  rw [← hB] at hD
  simp only [IntKind.wrap_u64] at hD
  rw [← Int.sub_emod, show (X : Int) * 4294967296 - (q0 : Int) * 11529215046068469760 = ((r0 * 4294967296 : Nat) : Int) by omega] at hD
  omega
theorem dv_s1 (v1 d V : Nat) (e2 : v1 * 4294967296 = V) (hV : d * 1152921504606846976 = V) : v1 = d * 268435456 := by omega
theorem dv_s2 (U q1 r1 v1 X q0 r0 : Nat) (e1 : U = 2684354560 * q1 + r1) (e3 : X = 2684354560 * q0 + r0) (e4 : r1 * 4294967296 + v1 = X) : 2684354560 * (q1 * 4294967296 + q0) + r0 = U * 4294967296 + v1 := by omega
theorem dv_s3 (h c d : Nat) : (h * 18446744073709551616 + (16 * c + d)) * 268435456 = (h * 1152921504606846976 + c) * 4294967296 + d * 268435456 := by omega
theorem dv_N (h l U V q1 r1 v1 X q0 r0 : Nat) (hU : h * 1152921504606846976 + l / 16 = U) (hV : l % 16 * 1152921504606846976 = V) (e1 : U = 2684354560 * q1 + r1) (e2 : v1 * 4294967296 = V) (e3 : X = 2684354560 * q0 + r0) (e4 : r1 * 4294967296 + v1 = X) :
    (h * 18446744073709551616 + l) * 268435456 = 2684354560 * (q1 * 4294967296 + q0) + r0 := by
  rw [dv_s2 U q1 r1 v1 X q0 r0 e1 e3 e4, dv_s1 v1 (l % 16) V e2 hV, ← hU, ← dv_s3, Nat.div_add_mod]
theorem dv_fin (N A r0 D : Nat) (hN : N * 268435456 = 2684354560 * A + r0) (h0 : r0 < 2684354560) (hD : D = r0 * 4294967296) : A = N / 10 ∧ D / 1152921504606846976 = N % 10 := by omega
set_option maxRecDepth 100000 in
set_option maxHeartbeats 1000000 in
theorem div_great (h l : Nat) (h0 : 0 < h) (h1 : h < 10) (hl : l < 18446744073709551616) (w : World) :
    Calls Tryz.prog 112 #[.int .u64 (h : Int), .int .u64 (l : Int), .int .u64 10] w fun e w' => e = .returned (.tuple #[.int .u64 (((h * 18446744073709551616 + l) / 10 : Nat) : Int), .int .u64 (((h * 18446744073709551616 + l) % 10 : Nat) : Int)]) ∧ Grow w w' := by
  have e1 : bits .or .u64 ((h : Int) * 1152921504606846976) ((l : Int) / 16) = ((h * 1152921504606846976 + l / 16 : Nat) : Int) := by
    have := or_split h (l / 16) h1 (by omega)
    rw [← this]
    congr 1
  have e2 : bits .and .u64 11529215046068469760 4294967295 = 0 := by decide +kernel
  have e3 : IntKind.u64.wrap ((l : Int) * 1152921504606846976) = (((l % 16) * 1152921504606846976 : Nat) : Int) := by rw [IntKind.wrap_u64]; omega
  have e4 : bits .and .u64 (((l % 16) * 1152921504606846976 : Nat) : Int) 4294967295 = 0 := by
    rw [Mul.maskN _ (by omega)]
    have : (l % 16) * 1152921504606846976 % 4294967296 = 0 := by omega
    rw [this]
    rfl
  obtain ⟨U, hU⟩ : ∃ U, h * 1152921504606846976 + l / 16 = U := ⟨_, rfl⟩
  obtain ⟨V, hV⟩ : ∃ V, (l % 16) * 1152921504606846976 = V := ⟨_, rfl⟩
  have HR : Hid (h * 1152921504606846976 + l / 16 = U ∧ (l % 16) * 1152921504606846976 = V) := ⟨hU, hV⟩
  rw [hU] at e1
  rw [hV] at e3 e4
  have bU : U < 11529215046068469760 := by omega
  have bV : V < 18446744073709551616 := by omega
  obtain ⟨q1, hq1⟩ : ∃ q1, U / 2684354560 = q1 := ⟨_, rfl⟩
  obtain ⟨r1, hr1⟩ : ∃ r1, U % 2684354560 = r1 := ⟨_, rfl⟩
  obtain ⟨v1, hv1⟩ : ∃ v1, V / 4294967296 = v1 := ⟨_, rfl⟩
  have c1 : q1 < 4294967296 := by omega
  have c2 : r1 < 2684354560 := by omega
  have c4 : v1 < 4294967296 := by omega
  have HU : Hid (U = 2684354560 * q1 + r1) := by rw [← hq1, ← hr1]; exact (Nat.div_add_mod U 2684354560).symm
  have HV : Hid (v1 * 4294967296 = V) := by
    have := v_div (l % 16)
    rw [HR.out.2, hv1] at this
    exact this
  have f1 : (U : Int) / 2684354560 = (q1 : Int) := by omega
  have f2 : (U : Int) - (q1 : Int) * 2684354560 = (r1 : Int) := by omega
  have f3 : (V : Int) / 4294967296 = (v1 : Int) := by omega
  clear hU hV hq1 hr1 hv1
  go_enter Tryz.func112, Tryz.ntmps112
  go_wp2_with (go_at_call 145; refine (lead10 _).mono ?_; rintro e w' ⟨rfl, rfl⟩)
  clear e1 e2 e3 e4
  go_loopw [15, 16] (fun q r wr => q = .int .u64 (q1 : Int) ∧ r = .int .u64 (r1 : Int) ∧ wr = w') (fun _ _ _ => 0)
  case atStart => exact ⟨rfl, rfl, rfl⟩
  case round =>
    obtain ⟨rfl, rfl, rfl⟩ := hrel
    clear f1 f2 f3 bU bV
    obtain ⟨S, hS⟩ : ∃ S : Nat, IntKind.u64.wrap (IntKind.u64.wrap (4294967296 * (r1 : Int)) + (v1 : Int)) = (S : Int) := dv_s _
    have g2 : ¬ (4294967296 : Int) ≤ (q1 : Int) := by omega
    obtain ⟨X, hX⟩ : ∃ X : Nat, r1 * 4294967296 + v1 = X := ⟨_, rfl⟩
    have i1 : IntKind.u64.wrap (IntKind.u64.wrap (IntKind.u64.wrap ((U : Int) * 4294967296) + (v1 : Int)) - IntKind.u64.wrap ((q1 : Int) * 11529215046068469760)) = (X : Int) := by
      exact dv_i1 U q1 r1 v1 X HU.out hX c2 c4
    obtain ⟨q0, hq0⟩ : ∃ q0, X / 2684354560 = q0 := ⟨_, rfl⟩
    obtain ⟨r0, hr0⟩ : ∃ r0, X % 2684354560 = r0 := ⟨_, rfl⟩
    have d1 : q0 < 4294967296 := by omega
    have d2 : r0 < 2684354560 := by omega
    have HX : Hid (X = 2684354560 * q0 + r0 ∧ r1 * 4294967296 + v1 = X ∧ q0 < 4294967296 ∧ r0 < 2684354560 ∧ q1 < 4294967296) := by rw [← hq0, ← hr0]; exact ⟨(Nat.div_add_mod X 2684354560).symm, hX, by omega, by omega, c1⟩
    have j1 : IntKind.u64.wrap ((X : Int) / 2684354560) = (q0 : Int) := by
      exact dv_j1 X q0 hq0 d1
    have j2 : IntKind.u64.wrap ((X : Int) - (q0 : Int) * 2684354560) = (r0 : Int) := by
      exact dv_j2 X q0 r0 HX.out.1 d1 d2
    have g3 : ¬ (4294967296 : Int) ≤ (q0 : Int) := by omega
    clear c1 c2 c4 d1 d2 hX hq0 hr0
    go_wp2
    clear hS i1 j1 j2 g2
    go_loopw [18, 16] (fun q r wr2 => q = .int .u64 (q0 : Int) ∧ r = .int .u64 (r0 : Int) ∧ wr2 = wr) (fun _ _ _ => 0)
    case atStart => exact ⟨rfl, rfl, rfl⟩
    case round =>
      obtain ⟨rfl, rfl, rfl⟩ := hrel
      have g5 : ¬ (4294967296 : Int) ≤ (q0 : Int) := by omega
      clear g3
      obtain ⟨S2, hS2, bS2⟩ : ∃ S : Nat, IntKind.u64.wrap (4294967296 * (r0 : Int)) = (S : Int) ∧ S < 18446744073709551616 := dv_sb _
      obtain ⟨A, hA⟩ : ∃ S : Nat, IntKind.u64.wrap (IntKind.u64.wrap ((q1 : Int) * 4294967296) + (q0 : Int)) = (S : Int) := dv_s _
      obtain ⟨B, hB, bB⟩ : ∃ S : Nat, IntKind.u64.wrap ((X : Int) * 4294967296) = (S : Int) ∧ S < 18446744073709551616 := dv_sb _
      obtain ⟨D, hD⟩ : ∃ S : Nat, IntKind.u64.wrap ((B : Int) - IntKind.u64.wrap ((q0 : Int) * 11529215046068469760)) = (S : Int) := dv_s _
      have HF : Hid (A = (h * 18446744073709551616 + l) / 10 ∧ D / 1152921504606846976 = (h * 18446744073709551616 + l) % 10) := by
        obtain ⟨x1, x2, x3, x4, x5⟩ := HX.out
        have y1 := dv_A q1 q0 A x5 x3 hA
        have y2 := dv_D X q0 r0 B D x1 x4 hB hD
        have y3 := dv_N h l U V q1 r1 v1 X q0 r0 HR.out.1 HR.out.2 HU.out HV.out x1 x2
        rw [← y1] at y3
        exact dv_fin _ A r0 D y3 x4 y2
      go_wp2
      go_ret2
      exact ⟨ret_pair (by rw [HF.out.1]; simp) (by rw [show (D : Int) / 1152921504606846976 = ((D / 1152921504606846976 : Nat) : Int) from rfl, HF.out.2]; simp), Grow.refl _⟩
/-- What is divided by ten, in two words. -/
theorem div_ten (h l : Nat) (h1 : h < 10) (hl : l < 18446744073709551616) (w : World) :
    Calls Tryz.prog 112 #[.int .u64 (h : Int), .int .u64 (l : Int), .int .u64 10] w fun e w' => e = .returned (.tuple #[.int .u64 (((h * 18446744073709551616 + l) / 10 : Nat) : Int), .int .u64 (((h * 18446744073709551616 + l) % 10 : Nat) : Int)]) ∧ Grow w w' := by
  by_cases h0 : h = 0
  · subst h0
    have := div_small l hl w
    simpa using this
  · exact div_great h l (by omega) h1 hl w
end Go.Proofs.YtpfiejmhnkcjbaaGreatDoor.D6
