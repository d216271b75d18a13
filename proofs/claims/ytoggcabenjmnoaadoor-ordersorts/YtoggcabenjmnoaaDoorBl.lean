/-
  The order of bytes.
-/
import Derived.Test.YtoggcabenjmnoaaDoorKl
namespace Go.Proofs.YtoggcabenjmnoaaDoor
open Go.RowKit Math
set_option linter.unusedVariables false
set_option linter.unusedSimpArgs false
/-- The order of bytes. -/
def blt : List Nat → List Nat → Bool
  | _, [] => false
  | [], _ :: _ => true
  | a :: x, b :: y => decide (a < b) || (a == b && blt x y)
theorem toL (s : ByteArray) : s.toList = s.data.toList := by
  rw [ByteArray.toList_eq]
theorem blt_map : ∀ (l m : List UInt8), Op.bytesLess l m = blt (l.map UInt8.toNat) (m.map UInt8.toNat)
  | l, [] => by cases l <;> rfl
  | [], _ :: _ => rfl
  | a :: x, b :: y => by
    rw [Op.bytesLess, List.map_cons, List.map_cons, blt, blt_map x y]
    have h1 : decide (a < b) = decide (a.toNat < b.toNat) := by rw [decide_eq_decide]; exact UInt8.lt_iff_toNat_lt
    have h2 : (a == b) = (a.toNat == b.toNat) := by
      rw [Bool.eq_iff_iff, beq_iff_eq, beq_iff_eq]
      exact ⟨fun h => by rw [h], fun h => UInt8.toNat_inj.1 h⟩
    rw [h1, h2]
theorem less_blt (s t : ByteArray) : Op.bytesLess s.toList t.toList = blt (bts s) (bts t) := by
  rw [toL, toL, blt_map]; rfl
theorem blt_pre (p u v : List Nat) : blt (p ++ u) (p ++ v) = blt u v := by
  induction p with
  | nil => rfl
  | cons a p ih => simp [blt, ih]
end Go.Proofs.YtoggcabenjmnoaaDoor
