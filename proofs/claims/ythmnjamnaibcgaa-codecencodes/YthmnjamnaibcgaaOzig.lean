/-
  Zig and Zag, both.
-/
import Derived.Test.YthmnjamnaibcgaaOsame
import Derived.Test.YthmnjamnaibcgaaRch
namespace Go.Proofs.Ythmnjamnaibcgaa
open Go.RowKit Go.ChangeShapes Go.WideShapes Math
set_option linter.unusedVariables false
set_option maxHeartbeats 400000 in
theorem zig_any (v : Int) (h1 : -9223372036854775808 ≤ v) (h2 : v ≤ 9223372036854775807) (w : World) :
    Calls Try.prog 37 #[.int .i64 v] w fun e w' => e = .returned (.int .u64 (zigS v)) ∧ w' = w := by
  have hz := zig_bits v h1 h2
  go_enter Try.func37, Try.ntmps37
  go_wp2
  go_ret
  exact ⟨rfl, rfl⟩
set_option maxHeartbeats 400000 in
theorem zigr_any (v : Int) (h1 : -9223372036854775808 ≤ v) (h2 : v ≤ 9223372036854775807) (w : World) :
    Calls Try.prog 28 #[.int .i64 v] w fun e w' => e = .returned (.int .u64 (zigS v)) ∧ w' = w := by
  by_cases h : 0 ≤ v
  · have HZ : Hid (zigS v = 2 * v) := by show _ = _; unfold zigS; rw [if_pos h]
    go_enter Try.func28, Try.ntmps28
    go_wp2
    go_ret
    exact ⟨ret_int HZ.out.symm, rfl⟩
  · have HZ : Hid (zigS v = 2 * -(v + 1) + 1) := by show _ = _; unfold zigS; rw [if_neg h]
    go_enter Try.func28, Try.ntmps28
    go_wp2
    go_ret
    exact ⟨ret_int HZ.out.symm, rfl⟩
set_option maxHeartbeats 400000 in
theorem zag_any (v : Int) (h1 : 0 ≤ v) (h2 : v ≤ 18446744073709551615) (w : World) :
    Calls Try.prog 57 #[.int .u64 v] w fun e w' => e = .returned (.int .i64 (zagS v)) ∧ w' = w := by
  have HZ : Hid (bits BinOp.xor IntKind.i64 (v / 2) (wrap64 (-wrap64 (bits BinOp.and IntKind.u64 v 1))) = zagS v) := by
    have h := zag_bits v h1 h2
    simp only [IntWalk.i64_left] at h
    exact h
  go_enter Try.func57, Try.ntmps57
  go_wp2
  go_ret
  exact ⟨ret_int HZ.out, rfl⟩
end Go.Proofs.Ythmnjamnaibcgaa
