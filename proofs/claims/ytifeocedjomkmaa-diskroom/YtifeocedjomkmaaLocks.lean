/-
  The numbers under which this program holds the functions and types of the library's lock, and that it holds them.
-/
import Derived.Test.YtifeocedjomkmaaProg
import Derived.Conc.MuData
import Derived.Conc.MuLone
import Derived.KernelRfl
namespace Go.Proofs.Ytifeocedjomkmaa
abbrev Try.muLink : Go.Conc.Locks.MuLink := { lock := 52, unlock := 53, ilock := 61, iunlock := 62, lockSlow := 73, unlockSlow := 76, disable := 69, enable := 71, acquire := 72, relMerge := 74, cas32 := 70, add32 := 75, tMutex := 61, tIMutex := 59, tPMutex := 82, tPIMutex := 87, tPI32 := 89, tUP := 91, tNoCopy := 56, tU32 := 57 }
theorem Try.muLib : Go.Conc.Locks.MuLib Try.prog Try.muLink :=
  ⟨Try.func52, Try.func53, Try.func61, Try.func62, Try.func69, Try.func71, Try.func72, Try.func74, Try.func70, Try.func75, Try.underlying59, Try.runUnderlying59, Try.sizeOf59, Try.isAgg59, Try.zeroValue59, Try.underlying61, Try.runUnderlying61, Try.sizeOf61, Try.isAgg61, Try.zeroValue61, Try.underlying82, Try.runUnderlying82, Try.sizeOf82, Try.isAgg82, Try.zeroValue82, Try.underlying87, Try.runUnderlying87, Try.sizeOf87, Try.isAgg87, Try.zeroValue87, Try.underlying89, Try.runUnderlying89, Try.sizeOf89, Try.isAgg89, Try.zeroValue89, Try.underlying91, Try.runUnderlying91, Try.sizeOf91, Try.isAgg91, Try.zeroValue91, Try.underlying56, Try.runUnderlying56, Try.sizeOf56, Try.isAgg56, Try.zeroValue56, Try.underlying21, Try.runUnderlying21, Try.sizeOf21, Try.isAgg21, Try.zeroValue21, (by kernel_rfl)⟩
end Go.Proofs.Ytifeocedjomkmaa
