/-
  codec's appendKids.
-/
import Derived.Test.YtpfiejmhnkcjbaaGreatDoorAG21x
namespace Go.Proofs.YtpfiejmhnkcjbaaGreatDoor
open Go.RowKit Math
set_option linter.unusedVariables false
theorem al_zero {P : Program} {ops : Array Oper} {rest : List Oper} {o : Oper} {a : Act} {w : World} {Q : Exit → Act → World → Prop} (hg : o.guard = none) (t : TypeId) (ho : o.op = .alloc t) (cs : List Value) (hz : (P.info? t).map (fun i => i.zero.map (·.cells)) = some (some cs.toArray))
    (h : ∀ g w', w.heap.size ≤ g → Blk w' g t cs → w.grownBy w' none → wpList P ops Q rest (a.put o.dst (.pointer (some ⟨g, 0, none⟩))) w') : wpList P ops Q (o :: rest) a w := by
  refine wpList_plain hg fun K hK => ?_
  unfold Oper.wp execOp
  cases hi : P.info? t with
  | none => simp [hi] at hz
  | some i =>
    cases hq : i.zero with
    | none => simp [hi, hq] at hz
    | some z =>
      have hc : z.cells = cs.toArray := by simpa [hi, hq] using hz
      have hzv : (zeroValue t).run P w = .ok z w := by simp [zeroValue, typeInfo, hi, hq]
      simp only [ho, Sem.run_bind, Instr.alloc, hzv, newVar, newRow, run_newObj_alloc, Sem.run_pure, Result.andThen_ok, hc]
      exact hK _ _ (h _ _ (Nat.le_refl _) (blk_new w t cs) (World.grownBy_alloc w _ none))
theorem z25 : (Tryz.prog.info? 41).map (fun i => i.zero.map (·.cells)) = some (some zer.toArray) := by kernel_rfl
theorem below_new {w w1 w2 : World} {g : Nat} (h1 : w.grownBy w1 none) (hg : w.heap.size ≤ g) (h2 : w1.grownBy w2 (some g)) : Below w.heap.size w w2 := by
  have b1 : Below w.heap.size w w1 := (Below.refl _ _).grown h1 (Nat.le_refl _) (fun k e => by cases e)
  exact b1.grown h2 h1.size (fun k e => by injection e with e; omega)
end Go.Proofs.YtpfiejmhnkcjbaaGreatDoor
