/- The numbers of the lock's functions and types in this program. -/
import Derived.Test.YtlncjbjdjciphaaRows
import Derived.Conc.MuLone
import Derived.KernelRfl
namespace Go.Proofs.Ytlncjbjdjciphaa
abbrev Try.muLink : Go.Conc.Locks.MuLink := { lock := 36, unlock := 37, ilock := 54, iunlock := 55, lockSlow := 66, unlockSlow := 69, disable := 62, enable := 64, acquire := 65, relMerge := 67, cas32 := 63, add32 := 68, tMutex := 95, tIMutex := 93, tPMutex := 112, tPIMutex := 117, tPI32 := 119, tUP := 121, tNoCopy := 90, tU32 := 91 }
theorem Try.muLib : Go.Conc.Locks.MuLib Try.prog Try.muLink :=
  ⟨Try.func36, Try.func37, Try.func54, Try.func55, Try.func62, Try.func64, Try.func65, Try.func67, Try.func63, Try.func68, Try.underlying93, Try.runUnderlying93, Try.sizeOf93, Try.isAgg93, Try.zeroValue93, Try.underlying95, Try.runUnderlying95, Try.sizeOf95, Try.isAgg95, Try.zeroValue95, Try.underlying112, Try.runUnderlying112, Try.sizeOf112, Try.isAgg112, Try.zeroValue112, Try.underlying117, Try.runUnderlying117, Try.sizeOf117, Try.isAgg117, Try.zeroValue117, Try.underlying119, Try.runUnderlying119, Try.sizeOf119, Try.isAgg119, Try.zeroValue119, Try.underlying121, Try.runUnderlying121, Try.sizeOf121, Try.isAgg121, Try.zeroValue121, Try.underlying90, Try.runUnderlying90, Try.sizeOf90, Try.isAgg90, Try.zeroValue90, Try.underlying21, Try.runUnderlying21, Try.sizeOf21, Try.isAgg21, Try.zeroValue21, (by kernel_rfl)⟩
end Go.Proofs.Ytlncjbjdjciphaa
