/-
  Values as bytes, over lists: what is written, what is read, and that these belong together. No program is named.
-/
import Derived.Test.YtpfiejmhnkcjbaaGreatDoorAFrm
import Derived.Test.YtpfiejmhnkcjbaaGreatDoorAOMath
namespace Go.Proofs.YtpfiejmhnkcjbaaGreatDoor
open Go.RowKit Math
set_option linter.unusedVariables false
/-! ### readers -/
/-! ### bytes, numbers, texts -/
def bts (s : ByteArray) : List Nat := s.data.toList.map UInt8.toNat
def ofB (l : List Nat) : ByteArray := ⟨(l.map UInt8.ofNat).toArray⟩
theorem bts_len (s : ByteArray) : (bts s).length = s.size := by simp [bts]
theorem bts_oct (s : ByteArray) : ∀ x ∈ bts s, x < 256 := fun x hx => by
  obtain ⟨y, _, rfl⟩ := List.mem_map.1 hx
  exact y.toNat_lt
theorem ofB_bts (s : ByteArray) : ofB (bts s) = s := by
  unfold ofB bts
  rw [List.map_map]
  have : (UInt8.ofNat ∘ UInt8.toNat) = id := by funext x; simp
  rw [this]
  simp
theorem bts_ofB (l : List Nat) (h : ∀ x ∈ l, x < 256) : bts (ofB l) = l := by
  unfold ofB bts
  simp only [List.map_map]
  conv => rhs; rw [← List.map_id l]
  apply List.map_congr_left
  intro x hx
  have := h x hx
  simp
  omega
theorem ofB_size (l : List Nat) : (ofB l).size = l.length := by
  have : (ofB l).size = (ofB l).data.toList.length := by simp
  rw [this]
  simp [ofB]
end Go.Proofs.YtpfiejmhnkcjbaaGreatDoor
