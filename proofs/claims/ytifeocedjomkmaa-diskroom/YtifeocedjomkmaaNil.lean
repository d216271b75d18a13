/-
  The methods of a disk that is nil.
-/
import Derived.Test.YtifeocedjomkmaaWith
namespace Go.Proofs.Ytifeocedjomkmaa
open Go.RowKit Go.Maps
theorem hmf : ∀ (fn : Fn) (first cap : Array Value) (w : World), (Instr.makeFunc fn first cap).run Try.prog w = .ok (.func fn first cap) w := fun _ _ _ _ => rfl
theorem below_drewN {B : Nat} {w w' : World} (h : Below B w w') (q : Nat) : Below B w (w'.drewN q) := ⟨h.os, h.tape, h.output, h.size, h.block⟩
theorem below2 {w w' : World} {a b : Obj} (h : Below ((w.alloc a).alloc b).heap.size ((w.alloc a).alloc b) w') : Below w.heap.size w w' :=
  (((Below.refl _ _).alloc (Nat.le_refl _) a).alloc (by simp) b).trans (h.mono (by simp; omega))
theorem below1 {w w' : World} {a : Obj} (h : Below (w.alloc a).heap.size (w.alloc a) w') : Below w.heap.size w w' :=
  ((Below.refl _ _).alloc (Nat.le_refl _) a).trans (h.mono (by simp))
theorem below3 {w w' : World} {a b c : Obj} (h : Below (((w.alloc a).alloc b).alloc c).heap.size (((w.alloc a).alloc b).alloc c) w') : Below w.heap.size w w' := below1 (below2 h)
set_option maxHeartbeats 1000000 in
theorem do_nil (k : Fn) (first caps : Array Value) (a : Option Addr) (n c : Nat) (w : World) : Calls Try.prog 24 #[.pointer none, .func k first caps, .slice a n c] w fun e w' => e = .returned (.int .i64 1) ∧ Below w.heap.size w w' := by
  have hmf := hmf
  go_enter Try.func24, Try.ntmps24
  go_wp2_with (go_at_call 29; refine (with_nil _ _).mono ?_; rintro e w' ⟨rfl, rfl⟩)
  go_ret
  exact ⟨rfl, below3 (Below.refl _ _)⟩
set_option maxHeartbeats 1000000 in
theorem append_nil (s : ByteArray) (a : Option Addr) (n c : Nat) (w : World) : Calls Try.prog 10 #[.pointer none, .string s, .slice a n c] w fun e w' => e = .returned (.int .i64 1) ∧ Below w.heap.size w w' := by
  have hmf := hmf
  go_enter Try.func10, Try.ntmps10
  go_wp2_with (go_at_call 24; refine (do_nil _ _ _ _ _ _ _).mono ?_; rintro e w' ⟨rfl, hb⟩)
  go_ret
  exact ⟨rfl, below3 hb⟩
set_option maxHeartbeats 1000000 in
theorem sync_nil (s : ByteArray) (w : World) : Calls Try.prog 11 #[.pointer none, .string s] w fun e w' => e = .returned (.int .i64 1) ∧ Below w.heap.size w w' := by
  have hmf := hmf
  go_enter Try.func11, Try.ntmps11
  go_wp2_with (go_at_call 24; refine (do_nil _ _ _ _ _ _ _).mono ?_; rintro e w' ⟨rfl, hb⟩)
  go_ret
  exact ⟨rfl, below2 hb⟩
set_option maxHeartbeats 1000000 in
theorem truncate_nil (s : ByteArray) (n : Int) (w : World) : Calls Try.prog 17 #[.pointer none, .string s, .int .i64 n] w fun e w' => e = .returned (.int .i64 1) ∧ Below w.heap.size w w' := by
  have hmf := hmf
  go_enter Try.func17, Try.ntmps17
  go_wp2_with (go_at_call 24; refine (do_nil _ _ _ _ _ _ _).mono ?_; rintro e w' ⟨rfl, hb⟩)
  go_ret
  exact ⟨rfl, below3 hb⟩
set_option maxHeartbeats 1000000 in
theorem rename_nil (s t : ByteArray) (w : World) : Calls Try.prog 18 #[.pointer none, .string s, .string t] w fun e w' => e = .returned (.int .i64 1) ∧ Below w.heap.size w w' := by
  have hmf := hmf
  go_enter Try.func18, Try.ntmps18
  go_wp2_with (go_at_call 24; refine (do_nil _ _ _ _ _ _ _).mono ?_; rintro e w' ⟨rfl, hb⟩)
  go_ret
  exact ⟨rfl, below3 hb⟩
set_option maxHeartbeats 1000000 in
theorem remove_nil (s : ByteArray) (w : World) : Calls Try.prog 16 #[.pointer none, .string s] w fun e w' => e = .returned (.int .i64 1) ∧ Below w.heap.size w w' := by
  have hmf := hmf
  go_enter Try.func16, Try.ntmps16
  go_wp2_with (go_at_call 24; refine (do_nil _ _ _ _ _ _ _).mono ?_; rintro e w' ⟨rfl, hb⟩)
  go_ret
  exact ⟨rfl, below2 hb⟩
set_option maxHeartbeats 1000000 in
theorem fuse_nil (n : Int) (w : World) : Calls Try.prog 15 #[.pointer none, .int .i64 n] w fun e w' => e = .returned (.tuple #[]) ∧ Below w.heap.size w w' := by
  have hmf := hmf
  go_enter Try.func15, Try.ntmps15
  go_wp2_with (go_at_call 29; refine (with_nil _ _).mono ?_; rintro e w' ⟨rfl, rfl⟩)
  first | go_ret | go_end0
  exact ⟨rfl, below1 (Below.refl _ _)⟩
set_option maxHeartbeats 1000000 in
theorem crash_nil (n : Int) (w : World) : Calls Try.prog 12 #[.pointer none, .int .i64 n] w fun e w' => e = .returned (.tuple #[]) ∧ Below w.heap.size w w' := by
  have hmf := hmf
  go_enter Try.func12, Try.ntmps12
  go_wp2_with (go_at_call 29; refine (with_nil _ _).mono ?_; rintro e w' ⟨rfl, rfl⟩)
  first | go_ret | go_end0
  exact ⟨rfl, below1 (Below.refl _ _)⟩
set_option maxHeartbeats 1000000 in
theorem read_nil (s : ByteArray) (w : World) : Calls Try.prog 13 #[.pointer none, .string s] w fun e w' => e = .returned (.tuple #[.slice none 0 0, .int .i64 7]) ∧ Below w.heap.size w w' := by
  have hmf := hmf
  go_enter Try.func13, Try.ntmps13
  go_wp2_with (go_at_call 29; refine (with_nil _ _).mono ?_; rintro e w' ⟨rfl, rfl⟩)
  go_quiet (fail)
  go_wp2
  refine bodyPost_ret (results_tmp2 rfl _ _ _) rfl ?_
  exact ⟨rfl, below_drewN (below3 (Below.refl _ _)) _⟩
set_option maxHeartbeats 1000000 in
theorem list_nil  (w : World) : Calls Try.prog 19 #[.pointer none] w fun e w' => e = .returned (.slice none 0 0) ∧ Below w.heap.size w w' := by
  have hmf := hmf
  go_enter Try.func19, Try.ntmps19
  go_wp2_with (go_at_call 29; refine (with_nil _ _).mono ?_; rintro e w' ⟨rfl, rfl⟩)
  first | go_ret | refine bodyPost_ret (results_tmp2 rfl _ _ _) rfl ?_
  exact ⟨rfl, below1 (Below.refl _ _)⟩
set_option maxHeartbeats 1000000 in
theorem used_nil  (w : World) : Calls Try.prog 20 #[.pointer none] w fun e w' => e = .returned (.int .i64 0) ∧ Below w.heap.size w w' := by
  have hmf := hmf
  go_enter Try.func20, Try.ntmps20
  go_wp2_with (go_at_call 29; refine (with_nil _ _).mono ?_; rintro e w' ⟨rfl, rfl⟩)
  first | go_ret | refine bodyPost_ret (results_tmp2 rfl _ _ _) rfl ?_
  exact ⟨rfl, below1 (Below.refl _ _)⟩
set_option maxHeartbeats 1000000 in
theorem copy_nil  (w : World) : Calls Try.prog 21 #[.pointer none] w fun e w' => e = .returned (.pointer none) ∧ Below w.heap.size w w' := by
  have hmf := hmf
  go_enter Try.func21, Try.ntmps21
  go_wp2_with (go_at_call 29; refine (with_nil _ _).mono ?_; rintro e w' ⟨rfl, rfl⟩)
  first | go_ret | refine bodyPost_ret (results_tmp2 rfl _ _ _) rfl ?_
  exact ⟨rfl, below1 (Below.refl _ _)⟩
end Go.Proofs.Ytifeocedjomkmaa
