/-
  The law package's known: an order across kinds.
-/
import Derived.Test.YtiddlpjnfophhaaCmc
namespace Go.Proofs.Ytiddlpjnfophhaa
open Go.RowKit
set_option linter.unusedVariables false
/-- A number without anything below it. -/
def lone (k n s : Int) : Vt := (⟨k, n, s, ⟨#[]⟩, []⟩, .nil)
theorem lone_vl (k n s : Int) (w : World) : Vl w (lone k n s) none 0 none 0 := by
  constructor <;> first | exact .inl rfl | (constructor <;> simp [lone, Fo.list])
theorem lone_wf {k n s : Int} (hk : 0 ≤ k ∧ k < 100) (hn : 0 ≤ n ∧ n < 100) (hs : 0 ≤ s ∧ s < 100) : WfV (lone k n s) := by
  refine ⟨?_, by simp [lone, Fo.list], trivial⟩
  constructor <;> simp only [lone] <;> first | omega | exact Nat.zero_le _ | simp
theorem sz0 : (⟨#[]⟩ : ByteArray).size = 0 := rfl
theorem lone_num (n : Int) : chkV (lone 3 n 0) 1 = 0 := by
  simp [chkV, own, formed, only, lone, Fo.list, chk, ByteArray.toList_eq, sz0]
theorem lone_25 : chkV (lone 4 25 1) 1 = 0 := by
  simp [chkV, own, formed, only, lone, Fo.list, chk, ByteArray.toList_eq, sz0]
theorem lone_20 : chkV (lone 4 20 1) 1 = 3 := by
  simp [chkV, own, formed, only, lone, Fo.list, ByteArray.toList_eq]
theorem lone_null : chkV (lone 1 0 0) 1 = 0 := by
  simp [chkV, own, formed, only, lone, Fo.list, chk, ByteArray.toList_eq, sz0]
theorem lone_ord : cmpC (lone 3 2 0) (lone 4 25 1) = -1 := by
  rw [cmpC, if_pos ⟨lone_num 2, lone_25⟩]
  decide
set_option maxRecDepth 8000 in
set_option maxHeartbeats 1000000 in
theorem known_any (w : World) : Calls Try.prog 14 #[] w fun e w' => e = .returned (.bool true) ∧ Below w.heap.size w w' := by
  have k1 : Hid (∀ W, Calls Try.prog 15 #[.agg #[.int .i64 3, .int .i64 2, .int .i64 0, .string ⟨#[]⟩, .slice none 0 0, .slice none 0 0], .agg #[.int .i64 4, .int .i64 25, .int .i64 1, .string ⟨#[]⟩, .slice none 0 0, .slice none 0 0]] W fun e w' => e = .returned (.int .i64 (-1)) ∧ Below W.heap.size W w') := fun W => by
    have h := vCompare (lone 3 2 0) (lone 4 25 1) (lone_wf (by omega) (by omega) (by omega)) (lone_wf (by omega) (by omega) (by omega)) none 0 none 0 none 0 none 0 W (lone_vl _ _ _ _) (lone_vl _ _ _ _)
    rw [lone_ord] at h
    exact h
  have k2 : Hid (∀ W, Calls Try.prog 11 #[.agg #[.int .i64 4, .int .i64 20, .int .i64 1, .string ⟨#[]⟩, .slice none 0 0, .slice none 0 0]] W fun e w' => e = .returned (.int .i64 3) ∧ Below W.heap.size W w') := fun W => by
    have h := vCheck_any (lone 4 20 1) (lone_wf (by omega) (by omega) (by omega)) none 0 none 0 W (lone_vl _ _ _ _)
    rw [lone_20] at h
    exact h
  have k3 : Hid (∀ W, Calls Try.prog 11 #[.agg #[.int .i64 1, .int .i64 0, .int .i64 0, .string ⟨#[]⟩, .slice none 0 0, .slice none 0 0]] W fun e w' => e = .returned (.int .i64 0) ∧ Below W.heap.size W w') := fun W => by
    have h := vCheck_any (lone 1 0 0) (lone_wf (by omega) (by omega) (by omega)) none 0 none 0 W (lone_vl _ _ _ _)
    rw [lone_null] at h
    exact h
  go_enter Try.func14, Try.ntmps14
  go_wp2_with fail
  refine (k1.out _).mono ?_
  rintro e w1 ⟨rfl, hb⟩
  have B1 : Hid (Below w.heap.size w w1) := hb
  clear hb
  go_wp2_with fail
  refine (k2.out _).mono ?_
  rintro e w2 ⟨rfl, hb⟩
  have B2 : Hid (Below w.heap.size w w2) := B1.out.trans (hb.mono B1.out.size)
  clear hb
  go_wp2_with fail
  refine (k3.out _).mono ?_
  rintro e w3 ⟨rfl, hb⟩
  have B3 : Hid (Below w.heap.size w w3) := B2.out.trans (hb.mono B2.out.size)
  clear hb
  go_wp2
  go_ret
  exact ⟨rfl, B3.out⟩
end Go.Proofs.Ytiddlpjnfophhaa
