/-
  Rows of octets (chapter 10's own base).
-/
import Derived.Test.YtfkiciejipcgkaaDoorRows
namespace Go.Proofs.YtfkiciejipcgkaaDoor
namespace Math
end Math
def Oct (l : List Nat) : Prop := ∀ x ∈ l, x < 256
theorem Oct.right {l m : List Nat} (h : Oct (l ++ m)) : Oct m := fun x hx => h x (by simp [hx])
theorem Oct.left {l m : List Nat} (h : Oct (l ++ m)) : Oct l := fun x hx => h x (by simp [hx])
theorem Oct.app {l m : List Nat} (h : Oct l) (g : Oct m) : Oct (l ++ m) := fun x hx => by
  rcases List.mem_append.1 hx with a | a
  · exact h x a
  · exact g x a
theorem cell_lt {w : World} {b o : Nat} {v : Value} (h : w.cell? ⟨b, o, none⟩ = some v) : b < w.heap.size := by
  apply Nat.lt_of_not_le; intro hle
  have : w.heap[b]? = none := Array.getElem?_eq_none hle
  simp [World.cell?, this] at h
end Go.Proofs.YtfkiciejipcgkaaDoor
