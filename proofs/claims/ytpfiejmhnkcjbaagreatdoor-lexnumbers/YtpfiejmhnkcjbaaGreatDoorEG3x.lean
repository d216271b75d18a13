/-
  The contracts of value's hasOnly, isFormed, isNamed. · The contracts of value's isFormed and isNamed. · Plain mathematics of numbers as bytes, of no program: zig and zag, seven digits a byte. · Values as bytes, over lists: what is written, what is read, and that these belong together. No program is named. · Values as bytes, over trees: what is written of a value, and what is read. No program is named. · What is written is read as it was; what is read is written so. No program is named. · What is read is written so; how bytes that are cut short are read. No program is named. · What the walks share: a row of bytes in memory, as a list of numbers. · The contracts of the law package's helpers: same, roomy, stands; and one law on append onto a slice of bytes that the call made.
-/
import Derived.Test.YtpfiejmhnkcjbaaGreatDoorEVal
import Derived.Laws.BitsAllLaws
import Derived.Laws.DeepNot64
import Derived.Test.YtpfiejmhnkcjbaaGreatDoorRows
import Derived.WalkKit
import Derived.WalkSpells
import Derived.StillTactics
import Derived.Laws.Pointers
import Derived.RowKit3
import Derived.Below
import Derived.Deep.QuietTactic
import Derived.BigQuiet
import Derived.WalkSmall
import Derived.Laws.AppendOwnNone
import Derived.OpenShut
namespace Go.Proofs.YtpfiejmhnkcjbaaGreatDoor
open Go.RowKit
set_option linter.unusedVariables false
def only (h : Hd) (kl : Nat) (F : Int) : Bool :=
  (F = 1 || F = 3 || decide (h.n = 0)) && (F = 3 || decide (h.s = 0)) && (F = 4 || h.t.toList.isEmpty) && (F = 24 || decide (h.ns.length = 0)) && (F = 16 || F = 24 || decide (kl = 0))
end Go.Proofs.YtpfiejmhnkcjbaaGreatDoor
namespace Go.Proofs.YtpfiejmhnkcjbaaGreatDoor
open Go.RowKit
set_option linter.unusedVariables false
def formed (h : Hd) (kl : Nat) : Bool :=
  if h.k = 1 then only h kl 0
  else if h.k = 2 then only h kl 1 && (h.n == 0 || h.n == 1)
  else if h.k = 3 then only h kl 1
  else if h.k = 4 then only h kl 3 && decide (1 ≤ h.s) && decide (h.s ≤ 18) && (h.n.tmod 10 != 0)
  else if h.k = 5 then only h kl 1 && decide (0 ≤ h.n) && decide (h.n ≤ 9007199254740992)
  else if h.k = 6 then only h kl 4
  else if h.k = 7 then only h kl 4
  else if h.k = 8 then only h kl 16
  else if h.k = 9 then only h kl 24
  else false
def rises : ByteArray → List ByteArray → Bool
  | _, [] => true
  | l, x :: r => !(Op.bytesLess x.toList l.toList || x.toList == l.toList) && !(decide (40 < x.size)) && rises x r
def named (ns : List ByteArray) (kl : Nat) : Bool := decide (ns.length = kl) && rises ⟨#[]⟩ ns
def own (h : Hd) (kl : Nat) : Int := if formed h kl = true then (if 16384 < h.t.size ∨ 200 < kl then 5 else if h.k = 9 ∧ named h.ns kl = false then 3 else 0) else 3
end Go.Proofs.YtpfiejmhnkcjbaaGreatDoor
namespace Go.Proofs.YtpfiejmhnkcjbaaGreatDoor.Math

/-! ### zig and zag -/
/-! ### seven digits a byte -/
end Go.Proofs.YtpfiejmhnkcjbaaGreatDoor.Math
namespace Go.Proofs.YtpfiejmhnkcjbaaGreatDoor
open Go.RowKit Math
set_option linter.unusedVariables false
/-! ### readers -/
/-! ### bytes, numbers, texts -/
def bts (s : ByteArray) : List Nat := s.data.toList.map UInt8.toNat
def ofB (l : List Nat) : ByteArray := ⟨(l.map UInt8.ofNat).toArray⟩
theorem bts_len (s : ByteArray) : (bts s).length = s.size := by simp [bts]
theorem bts_oct (s : ByteArray) : ∀ x ∈ bts s, x < 256 := fun x hx => by
  obtain ⟨y, _, rfl⟩ := List.mem_map.1 hx
  exact y.toNat_lt
theorem ofB_bts (s : ByteArray) : ofB (bts s) = s := by
  unfold ofB bts
  rw [List.map_map]
  have : (UInt8.ofNat ∘ UInt8.toNat) = id := by funext x; simp
  rw [this]
  simp
theorem bts_ofB (l : List Nat) (h : ∀ x ∈ l, x < 256) : bts (ofB l) = l := by
  unfold ofB bts
  simp only [List.map_map]
  conv => rhs; rw [← List.map_id l]
  apply List.map_congr_left
  intro x hx
  have := h x hx
  simp
  omega
theorem ofB_size (l : List Nat) : (ofB l).size = l.length := by
  have : (ofB l).size = (ofB l).data.toList.length := by simp
  rw [this]
  simp [ofB]
end Go.Proofs.YtpfiejmhnkcjbaaGreatDoor
namespace Go.Proofs.YtpfiejmhnkcjbaaGreatDoor
open Go.RowKit Math
set_option linter.unusedVariables false
/-! ### values one behind the other -/
/-! ### the check without the depth -/
/-! ### what is written -/
/-! ### what is read -/
/-! ### good readers -/
/-! ### what is written is read -/
end Go.Proofs.YtpfiejmhnkcjbaaGreatDoor
namespace Go.Proofs.YtpfiejmhnkcjbaaGreatDoor
open Go.RowKit Math
set_option linter.unusedVariables false
end Go.Proofs.YtpfiejmhnkcjbaaGreatDoor
namespace Go.Proofs.YtpfiejmhnkcjbaaGreatDoor
open Go.RowKit Math
set_option linter.unusedVariables false
/-! ### what follows -/
end Go.Proofs.YtpfiejmhnkcjbaaGreatDoor
namespace Go.Proofs.YtpfiejmhnkcjbaaGreatDoor
open Go.RowKit Math

end Go.Proofs.YtpfiejmhnkcjbaaGreatDoor
namespace Go.Proofs.YtpfiejmhnkcjbaaGreatDoor
open Go.RowKit Go.ChangeShapes Go.WideShapes Math
theorem Tryz.info5 : (Tryz.prog.info? 5).map (fun i => (i.zero, i.size, i.bytes)) = some (some (.int .u8 0), 1, 1) := by kernel_rfl
end Go.Proofs.YtpfiejmhnkcjbaaGreatDoor
