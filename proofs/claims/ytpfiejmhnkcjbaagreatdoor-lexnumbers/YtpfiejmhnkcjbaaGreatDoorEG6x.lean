/-
  The document's own Clone. · Appending to bytes that the call made: where they lie then, and what stays as it was. · codec's appendUvarint, appendInt, appendText. · codec's appendValue at values without kids. · A region that draws its order, in a class of worlds that every operation keeps: an operation that in every world of the class yields one value and leaves the world alone may be taken first; one that alone may come up is carried out where it stands, whatever it does to the world within the class.
-/
import Derived.Test.YtpfiejmhnkcjbaaGreatDoorEOwn
import Derived.Test.YtpfiejmhnkcjbaaGreatDoorEG4x
import Derived.Lib.AppendStr
import Derived.Deep.Quiet
import Derived.Deep.RegionLaw
namespace Go.Proofs.YtpfiejmhnkcjbaaGreatDoor
open Go.RowKit
set_option linter.unusedVariables false
def zer : List Value := [.int .i64 0, .int .i64 0, .int .i64 0, .string ⟨#[]⟩, .slice none 0 0, .slice none 0 0]
theorem res_row {P : Program} {w : World} {fn : Func} {p : Tmp} {ty : TypeId} (h : fn.results = #[.cell p ty]) (tmps : Array Value) (g : Nat) (t : TypeId) (cs : List Value) (d : TypeDesc)
    (hp : tmps.getD p undef = .pointer (some ⟨g, 0, none⟩)) (hg : Blk w g t cs) (hu : P.underlying ty = some d) (hd : d.isRow = true) (hi : (P.info? ty).map (·.size) = some cs.length) :
    (results fn tmps).run P w = .ok (.agg cs.toArray) w :=
  results_cell_row h tmps w g t cs.toArray (0, 0) d hp hg hu (by cases d <;> simp_all [TypeDesc.isRow]) (by simpa using hi)
theorem res_two {P : Program} {w : World} {fn : Func} {p q : Tmp} {ty : TypeId} (h : fn.results = #[.cell p ty, .tmp q]) (tmps : Array Value) (g : Nat) (t : TypeId) (cs : List Value) (d : TypeDesc)
    (hp : tmps.getD p undef = .pointer (some ⟨g, 0, none⟩)) (hg : Blk w g t cs) (hu : P.underlying ty = some d) (hd : d.isRow = true) (hi : (P.info? ty).map (·.size) = some cs.length) :
    (results fn tmps).run P w = .ok (.tuple #[.agg cs.toArray, tmps.getD q undef]) w := by
  have hp' : tmps[p]?.getD undef = .pointer (some ⟨g, 0, none⟩) := by simpa using hp
  simp [results, h, hp', asAddr, run_loadVar_row w g t ty cs.toArray (0, 0) d hg hu (by cases d <;> simp_all [TypeDesc.isRow]) (by simpa using hi)]
theorem s25 : (Tryz.prog.info? 41).map (·.size) = some 6 := by kernel_rfl
end Go.Proofs.YtpfiejmhnkcjbaaGreatDoor
namespace Go.Proofs.YtpfiejmhnkcjbaaGreatDoor
open Go.RowKit Math
set_option linter.unusedVariables false
end Go.Proofs.YtpfiejmhnkcjbaaGreatDoor
namespace Go.Proofs.YtpfiejmhnkcjbaaGreatDoor
open Go.RowKit Math
set_option linter.unusedVariables false
end Go.Proofs.YtpfiejmhnkcjbaaGreatDoor
namespace Go.Proofs.YtpfiejmhnkcjbaaGreatDoor
open Go.RowKit Math
set_option linter.unusedVariables false
end Go.Proofs.YtpfiejmhnkcjbaaGreatDoor
namespace Go.Proofs.YtpfiejmhnkcjbaaGreatDoor
open Go
section
variable {P : Program} {ops : Array Oper} {C : World → Prop} {z : Nat} {Q : Exit → Act → World → Prop}
/-- The kinds of operation that are carried out at once and enter no function. -/
def atOnce : Op → Bool
  | .move _ | .assign _ | .pick .. | .load .. | .binOp .. | .unOp .. | .indexAddr .. | .index .. | .fieldAddr .. | .field .. | .extract .. | .convert .. | .slice .. | .build .. | .nilCheck _ => true
  | _ => false
/-- The operations of these numbers, in this order: each may come up, nothing that is left is at odds with it, and it is carried out at once. -/
def lastOn (ops : Array Oper) (z i : Nat) : Bool := match ops[z]? with | some oz => oz.after.any (fun e => Region.binds .any e && e.on == i) | none => false
def segB (ops : Array Oper) (z : Nat) : Array Bool → List Nat → Bool
  | _, [] => true
  | listed, i :: r => lastOn ops z i && ((Region.ready .any ops listed).contains i && (Region.free .any ops listed i && ((match ops[i]? with | some o => atOnce o.op | none => false) && segB ops z (listed.setIfInBounds i true) r)))
def marks : Array Bool → List Nat → Array Bool
  | l, [] => l
  | l, i :: r => marks (l.setIfInBounds i true) r
end
end Go.Proofs.YtpfiejmhnkcjbaaGreatDoor
