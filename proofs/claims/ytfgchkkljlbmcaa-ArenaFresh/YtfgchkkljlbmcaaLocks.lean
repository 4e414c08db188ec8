/- The numbers of the lock's functions and types in this program. -/
import Derived.Test.YtfgchkkljlbmcaaRows
import Derived.Conc.MuLone
import Derived.KernelRfl
namespace Go.Proofs.Ytfgchkkljlbmcaa
abbrev Try.muLink : Go.Conc.Locks.MuLink := { lock := 46, unlock := 47, ilock := 59, iunlock := 60, lockSlow := 72, unlockSlow := 75, disable := 68, enable := 70, acquire := 71, relMerge := 73, cas32 := 69, add32 := 74, tMutex := 89, tIMutex := 87, tPMutex := 109, tPIMutex := 117, tPI32 := 119, tUP := 121, tNoCopy := 84, tU32 := 85 }
theorem Try.muLib : Go.Conc.Locks.MuLib Try.prog Try.muLink :=
  ⟨Try.func46, Try.func47, Try.func59, Try.func60, Try.func68, Try.func70, Try.func71, Try.func73, Try.func69, Try.func74, Try.underlying87, Try.runUnderlying87, Try.sizeOf87, Try.isAgg87, Try.zeroValue87, Try.underlying89, Try.runUnderlying89, Try.sizeOf89, Try.isAgg89, Try.zeroValue89, Try.underlying109, Try.runUnderlying109, Try.sizeOf109, Try.isAgg109, Try.zeroValue109, Try.underlying117, Try.runUnderlying117, Try.sizeOf117, Try.isAgg117, Try.zeroValue117, Try.underlying119, Try.runUnderlying119, Try.sizeOf119, Try.isAgg119, Try.zeroValue119, Try.underlying121, Try.runUnderlying121, Try.sizeOf121, Try.isAgg121, Try.zeroValue121, Try.underlying84, Try.runUnderlying84, Try.sizeOf84, Try.isAgg84, Try.zeroValue84, Try.underlying21, Try.runUnderlying21, Try.sizeOf21, Try.isAgg21, Try.zeroValue21, (by kernel_rfl)⟩
end Go.Proofs.Ytfgchkkljlbmcaa
