/-
  What the walks share: a row of bytes in memory, as a list of numbers.
-/
import Derived.Test.YtfkiciejipcgkaaDoorRows
import Derived.Test.YtfkiciejipcgkaaDoorEo
import Derived.WalkKit
import Derived.WalkSpells
import Derived.StillTactics
import Derived.Laws.Pointers
import Derived.RowKit3
import Derived.Below
namespace Go.Proofs.YtfkiciejipcgkaaDoor
open Go.RowKit Math

/-- The cells of a row of bytes. -/
def Cells (w : World) (b off : Nat) (l : List Nat) : Prop := ∀ i, i < l.length → w.cell? ⟨b, off + i, none⟩ = some (.int .u8 ((l.getD i 0 : Nat) : Int))
theorem oct_get {l : List Nat} (h : Oct l) (i : Nat) : l.getD i 0 < 256 := by
  rw [List.getD_eq_getElem?_getD]
  cases e : l[i]? with
  | none => decide
  | some x => exact h x (List.mem_of_getElem? e)

/-- A slice's address, and its bytes. -/
def Byt (w : World) (a : Option Addr) (l : List Nat) : Prop := l = [] ∨ ∃ b off, a = some ⟨b, off, none⟩ ∧ Cells w b off l
theorem take_snoc (l : List Nat) (k : Nat) (hlt : k < l.length) : l.take (k + 1) = l.take k ++ [l.getD k 0] := by
  rw [List.take_succ_eq_append_getElem hlt, List.getD_eq_getElem?_getD, List.getElem?_eq_getElem hlt]; rfl
end Go.Proofs.YtfkiciejipcgkaaDoor
