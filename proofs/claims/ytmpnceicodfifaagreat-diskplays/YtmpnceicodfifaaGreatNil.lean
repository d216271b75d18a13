/-
  The methods of a disk that is nil.
-/
import Derived.Test.YtmpnceicodfifaaGreatWith
namespace Go.Proofs.YtmpnceicodfifaaGreat
open Go.RowKit Go.Maps
theorem hmf : ∀ (fn : Fn) (first cap : Array Value) (w : World), (Instr.makeFunc fn first cap).run Tryz.prog w = .ok (.func fn first cap) w := fun _ _ _ _ => rfl
theorem below_drewN {B : Nat} {w w' : World} (h : Below B w w') (q : Nat) : Below B w (w'.drewN q) := ⟨h.os, h.tape, h.output, h.size, h.block⟩
theorem below2 {w w' : World} {a b : Obj} (h : Below ((w.alloc a).alloc b).heap.size ((w.alloc a).alloc b) w') : Below w.heap.size w w' :=
  (((Below.refl _ _).alloc (Nat.le_refl _) a).alloc (by simp) b).trans (h.mono (by simp; omega))
theorem below1 {w w' : World} {a : Obj} (h : Below (w.alloc a).heap.size (w.alloc a) w') : Below w.heap.size w w' :=
  ((Below.refl _ _).alloc (Nat.le_refl _) a).trans (h.mono (by simp))
theorem below3 {w w' : World} {a b c : Obj} (h : Below (((w.alloc a).alloc b).alloc c).heap.size (((w.alloc a).alloc b).alloc c) w') : Below w.heap.size w w' := below1 (below2 h)
set_option maxHeartbeats 1000000 in
theorem do_nil (k : Fn) (first caps : Array Value) (a : Option Addr) (n c : Nat) (w : World) : Calls Tryz.prog 21 #[.pointer none, .func k first caps, .slice a n c] w fun e w' => e = .returned (.int .i64 1) ∧ Below w.heap.size w w' := by
  have hmf := hmf
  go_enter Tryz.func21, Tryz.ntmps21
  go_wp2_with (go_at_call 18; refine (with_nil _ _).mono ?_; rintro e w' ⟨rfl, rfl⟩)
  go_ret
  exact ⟨rfl, below3 (Below.refl _ _)⟩
set_option maxHeartbeats 1000000 in
theorem append_nil (s : ByteArray) (a : Option Addr) (n c : Nat) (w : World) : Calls Tryz.prog 10 #[.pointer none, .string s, .slice a n c] w fun e w' => e = .returned (.int .i64 1) ∧ Below w.heap.size w w' := by
  have hmf := hmf
  go_enter Tryz.func10, Tryz.ntmps10
  go_wp2_with (go_at_call 21; refine (do_nil _ _ _ _ _ _ _).mono ?_; rintro e w' ⟨rfl, hb⟩)
  go_ret
  exact ⟨rfl, below3 hb⟩
set_option maxHeartbeats 1000000 in
theorem sync_nil (s : ByteArray) (w : World) : Calls Tryz.prog 14 #[.pointer none, .string s] w fun e w' => e = .returned (.int .i64 1) ∧ Below w.heap.size w w' := by
  have hmf := hmf
  go_enter Tryz.func14, Tryz.ntmps14
  go_wp2_with (go_at_call 21; refine (do_nil _ _ _ _ _ _ _).mono ?_; rintro e w' ⟨rfl, hb⟩)
  go_ret
  exact ⟨rfl, below2 hb⟩
set_option maxHeartbeats 1000000 in
theorem truncate_nil (s : ByteArray) (n : Int) (w : World) : Calls Tryz.prog 31 #[.pointer none, .string s, .int .i64 n] w fun e w' => e = .returned (.int .i64 1) ∧ Below w.heap.size w w' := by
  have hmf := hmf
  go_enter Tryz.func31, Tryz.ntmps31
  go_wp2_with (go_at_call 21; refine (do_nil _ _ _ _ _ _ _).mono ?_; rintro e w' ⟨rfl, hb⟩)
  go_ret
  exact ⟨rfl, below3 hb⟩
set_option maxHeartbeats 1000000 in
theorem rename_nil (s t : ByteArray) (w : World) : Calls Tryz.prog 33 #[.pointer none, .string s, .string t] w fun e w' => e = .returned (.int .i64 1) ∧ Below w.heap.size w w' := by
  have hmf := hmf
  go_enter Tryz.func33, Tryz.ntmps33
  go_wp2_with (go_at_call 21; refine (do_nil _ _ _ _ _ _ _).mono ?_; rintro e w' ⟨rfl, hb⟩)
  go_ret
  exact ⟨rfl, below3 hb⟩
set_option maxHeartbeats 1000000 in
theorem remove_nil (s : ByteArray) (w : World) : Calls Tryz.prog 35 #[.pointer none, .string s] w fun e w' => e = .returned (.int .i64 1) ∧ Below w.heap.size w w' := by
  have hmf := hmf
  go_enter Tryz.func35, Tryz.ntmps35
  go_wp2_with (go_at_call 21; refine (do_nil _ _ _ _ _ _ _).mono ?_; rintro e w' ⟨rfl, hb⟩)
  go_ret
  exact ⟨rfl, below2 hb⟩
set_option maxHeartbeats 1000000 in
theorem fuse_nil (n : Int) (w : World) : Calls Tryz.prog 37 #[.pointer none, .int .i64 n] w fun e w' => e = .returned (.tuple #[]) ∧ Below w.heap.size w w' := by
  have hmf := hmf
  go_enter Tryz.func37, Tryz.ntmps37
  go_wp2_with (go_at_call 18; refine (with_nil _ _).mono ?_; rintro e w' ⟨rfl, rfl⟩)
  first | go_ret | go_end0
  exact ⟨rfl, below1 (Below.refl _ _)⟩
set_option maxHeartbeats 1000000 in
theorem crash_nil (n : Int) (w : World) : Calls Tryz.prog 11 #[.pointer none, .int .i64 n] w fun e w' => e = .returned (.tuple #[]) ∧ Below w.heap.size w w' := by
  have hmf := hmf
  go_enter Tryz.func11, Tryz.ntmps11
  go_wp2_with (go_at_call 18; refine (with_nil _ _).mono ?_; rintro e w' ⟨rfl, rfl⟩)
  first | go_ret | go_end0
  exact ⟨rfl, below1 (Below.refl _ _)⟩
set_option maxHeartbeats 1000000 in
theorem read_nil (s : ByteArray) (w : World) : Calls Tryz.prog 15 #[.pointer none, .string s] w fun e w' => e = .returned (.tuple #[.slice none 0 0, .int .i64 7]) ∧ Below w.heap.size w w' := by
  have hmf := hmf
  go_enter Tryz.func15, Tryz.ntmps15
  go_wp2_with (go_at_call 18; refine (with_nil _ _).mono ?_; rintro e w' ⟨rfl, rfl⟩)
  go_quiet (fail)
  go_wp2
  refine bodyPost_ret (results_tmp2 rfl _ _ _) rfl ?_
  exact ⟨rfl, below_drewN (below3 (Below.refl _ _)) _⟩
set_option maxHeartbeats 1000000 in
theorem list_nil  (w : World) : Calls Tryz.prog 43 #[.pointer none] w fun e w' => e = .returned (.slice none 0 0) ∧ Below w.heap.size w w' := by
  have hmf := hmf
  go_enter Tryz.func43, Tryz.ntmps43
  go_wp2_with (go_at_call 18; refine (with_nil _ _).mono ?_; rintro e w' ⟨rfl, rfl⟩)
  first | go_ret | refine bodyPost_ret (results_tmp2 rfl _ _ _) rfl ?_
  exact ⟨rfl, below1 (Below.refl _ _)⟩
set_option maxHeartbeats 1000000 in
theorem used_nil  (w : World) : Calls Tryz.prog 44 #[.pointer none] w fun e w' => e = .returned (.int .i64 0) ∧ Below w.heap.size w w' := by
  have hmf := hmf
  go_enter Tryz.func44, Tryz.ntmps44
  go_wp2_with (go_at_call 18; refine (with_nil _ _).mono ?_; rintro e w' ⟨rfl, rfl⟩)
  first | go_ret | refine bodyPost_ret (results_tmp2 rfl _ _ _) rfl ?_
  exact ⟨rfl, below1 (Below.refl _ _)⟩
set_option maxHeartbeats 1000000 in
theorem copy_nil  (w : World) : Calls Tryz.prog 8 #[.pointer none] w fun e w' => e = .returned (.pointer none) ∧ Below w.heap.size w w' := by
  have hmf := hmf
  go_enter Tryz.func8, Tryz.ntmps8
  go_wp2_with (go_at_call 18; refine (with_nil _ _).mono ?_; rintro e w' ⟨rfl, rfl⟩)
  first | go_ret | refine bodyPost_ret (results_tmp2 rfl _ _ _) rfl ?_
  exact ⟨rfl, below1 (Below.refl _ _)⟩
end Go.Proofs.YtmpnceicodfifaaGreat
