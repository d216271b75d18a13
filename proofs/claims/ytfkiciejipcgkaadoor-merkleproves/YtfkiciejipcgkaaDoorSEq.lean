/-
  An array of bytes is held against itself: the answer is true.
-/
import Derived.Test.YtfkiciejipcgkaaDoorSMem
import Derived.ChangeKeysEq
namespace Go.Proofs.YtfkiciejipcgkaaDoor.Sh
open Go.RowKit Mt
theorem cells5 : Tryd.prog.cellsOf 5 = 1 := by kernel_rfl
theorem items_same (d : Nat) (l : List Nat) (w : World) : ∀ is : List Nat, (∀ i ∈ is, i < l.length) → (Op.eqItems (d + 1) 5 1 (nums .u8 l).toArray (nums .u8 l).toArray is).run Tryd.prog w = .ok true w
  | [], _ => by simp [Op.eqItems]
  | i :: is, h => by
    have hi := h i (by simp)
    have hp : (part 5 (nums .u8 l).toArray (i * 1)).run Tryd.prog w = .ok (.int .u8 ((l.getD i 0 : Nat) : Int)) w := by
      have hv : (nums .u8 l).toArray[i]? = some (.int .u8 ((l.getD i 0 : Nat) : Int)) := by rw [List.getElem?_toArray, nums_get .u8 l i hi]
      simp only [part, Sem.run_bind, Tryd.isAgg5, Result.andThen_ok, Bool.false_eq_true, if_false, Nat.mul_one, hv, Sem.run_pure]
    simp only [Op.eqItems, Sem.run_bind, hp, Result.andThen_ok, run_equalIn_int w d 5 .u8 .u8 _ _ Tryd.underlying5, beq_self_eq_true, Bool.not_true, Bool.false_eq_true, if_false]
    exact items_same d l w is fun j hj => h j (by simp [hj])
theorem eql_same (l : List Nat) (hl : l.length = 32) (w : World) : (Op.equalIn 10000 30 (.agg (nums .u8 l).toArray) (.agg (nums .u8 l).toArray)).run Tryd.prog w = .ok true w := by
  obtain ⟨i, hi⟩ : ∃ i, Tryd.prog.info? 5 = some i := by
    cases h : Tryd.prog.info? 5 with
    | none => have := s5; rw [h] at this; cases this
    | some i => exact ⟨i, rfl⟩
  rw [run_equalIn_array w 9999 _ _ Tryd.underlying30 hi, cells5]
  exact items_same 9998 l w _ fun i hi => by rw [hl]; exact List.mem_range.1 hi
#print axioms eql_same
end Go.Proofs.YtfkiciejipcgkaaDoor.Sh
