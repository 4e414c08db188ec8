/-
  No cell of these rows narrows 'for every input' (looked for: loops, veiled, ifaces, maps, wideKeys, modest, calm, conditions, laid).
  DERIVED. THE GIVEN ROWS OF THIS SEAT. 8 by the template 'for every input the law returns true; each argument reads behind the call as it read before'; 0 by the template 'total and deterministic' (their statements: YtfgchkkljlbmcaaTotals.lean).
  GIVEN WITH THE SEED: the statements are not yours to turn. If you find one false, say at which input.
  Laid BY PROGRAM, IN A SANDBOX (cutbox-rows.mjs): the forced cells as the released guide's own fill.sh prints them over the translation acbe158a76585143… (all of the seat's roots in one cut). By AI agents, Wed Nov 11 2026. No macro, syntax, notation, axiom, sorry.
-/
import Derived.Test.YtfgchkkljlbmcaaChecked
import GoSem.Claim
import GoSem.ClaimJoined
import GoSem.ClaimMapViews
import Derived.JoinedTies
import Derived.KernelRfl
namespace Go.Proofs.Ytfgchkkljlbmcaa
/- THE CELL 'sum', in the pinned program and in every row, IS THE sha256 OF THE DUMP (.gsa) THAT YtfgchkkljlbmcaaProg.lean LOADS. Nothing in Lean hashes anything: it is a label: what it is worth is what the hold of that sum in a sandbox is worth. -/
noncomputable def Try.pinned : Pinned := { name := "ytfgchkkljlbmcaa", sum := "acbe158a765851431091ade31b56d553d078d530c2f18e9af8cc78d23fe4a235", checked := Try.checked }
namespace Rows
def none {H : Type} : Left H := { results := [], args := [] }

/-- 'wayfarelaw03.ArenaAccesses': WHATEVER THE INPUT: true; the input reads as it did. -/
def arenaAccessesSpec : ChangeSpec := { name := "arenaAccesses", fn := fun _ => fun
  | [d1, d2, d3] => { results := [.lit (.bool true)], args := [d1, d2, d3] }
  | _ => none }
def arenaAccessesRow : OpenClaim := { program := "ytfgchkkljlbmcaa", sum := "acbe158a765851431091ade31b56d553d078d530c2f18e9af8cc78d23fe4a235", func := "wayfare/wayfarelaw03.ArenaAccesses", spec := "arenaAccesses", inPlace := ["(*internal/sync.Mutex).Lock", "internal/race.Disable", "sync/atomic.CompareAndSwapInt32", "internal/race.Enable", "internal/race.Acquire", "(*internal/sync.Mutex).lockSlow", "internal/sync.runtime_canSpin", "internal/sync.runtime_doSpin", "internal/sync.throw", "internal/sync.runtime_nanotime", "internal/sync.runtime_SemacquireMutex", "sync/atomic.AddInt32", "(*internal/sync.Mutex).Unlock", "internal/race.ReleaseMerge", "(*internal/sync.Mutex).unlockSlow", "internal/sync.fatal", "internal/sync.runtime_Semrelease"], apart := false }
def ArenaAccessesSaid : Prop := arenaAccessesRow.holds Try.pinned (OpenSpec.ofChange arenaAccessesSpec)

/-- ITS FALSE NEIGHBOUR: 'it returns false'. Refute it at one input. -/
def arenaAccessesWrong : ChangeSpec := { name := "arenaAccesses", fn := fun _ => fun
  | [d1, d2, d3] => { results := [.lit (.bool false)], args := [d1, d2, d3] }
  | _ => none }
def ArenaAccessesWrongFalsely : Prop := arenaAccessesRow.holds Try.pinned (OpenSpec.ofChange arenaAccessesWrong)

/-- 'wayfarelaw03.ArenaPlays': WHATEVER THE INPUT: true; the input reads as it did. -/
def arenaPlaysSpec : ChangeSpec := { name := "arenaPlays", fn := fun _ => fun
  | [d1, d2, d3, d4] => { results := [.lit (.bool true)], args := [d1, d2, d3, d4] }
  | _ => none }
def arenaPlaysRow : OpenClaim := { program := "ytfgchkkljlbmcaa", sum := "acbe158a765851431091ade31b56d553d078d530c2f18e9af8cc78d23fe4a235", func := "wayfare/wayfarelaw03.ArenaPlays", spec := "arenaPlays", inPlace := ["(*internal/sync.Mutex).Lock", "internal/race.Disable", "sync/atomic.CompareAndSwapInt32", "internal/race.Enable", "internal/race.Acquire", "(*internal/sync.Mutex).lockSlow", "internal/sync.runtime_canSpin", "internal/sync.runtime_doSpin", "internal/sync.throw", "internal/sync.runtime_nanotime", "internal/sync.runtime_SemacquireMutex", "sync/atomic.AddInt32", "(*internal/sync.Mutex).Unlock", "internal/race.ReleaseMerge", "(*internal/sync.Mutex).unlockSlow", "internal/sync.fatal", "internal/sync.runtime_Semrelease"], apart := false }
def ArenaPlaysSaid : Prop := arenaPlaysRow.holds Try.pinned (OpenSpec.ofChange arenaPlaysSpec)

/-- ITS FALSE NEIGHBOUR: 'it returns false'. Refute it at one input. -/
def arenaPlaysWrong : ChangeSpec := { name := "arenaPlays", fn := fun _ => fun
  | [d1, d2, d3, d4] => { results := [.lit (.bool false)], args := [d1, d2, d3, d4] }
  | _ => none }
def ArenaPlaysWrongFalsely : Prop := arenaPlaysRow.holds Try.pinned (OpenSpec.ofChange arenaPlaysWrong)

/-- 'wayfarelaw03.ArenaReplays': WHATEVER THE INPUT: true; the input reads as it did. -/
def arenaReplaysSpec : ChangeSpec := { name := "arenaReplays", fn := fun _ => fun
  | [d1, d2] => { results := [.lit (.bool true)], args := [d1, d2] }
  | _ => none }
def arenaReplaysRow : OpenClaim := { program := "ytfgchkkljlbmcaa", sum := "acbe158a765851431091ade31b56d553d078d530c2f18e9af8cc78d23fe4a235", func := "wayfare/wayfarelaw03.ArenaReplays", spec := "arenaReplays", apart := false }
def ArenaReplaysSaid : Prop := arenaReplaysRow.holds Try.pinned (OpenSpec.ofChange arenaReplaysSpec)

/-- ITS FALSE NEIGHBOUR: 'it returns false'. Refute it at one input. -/
def arenaReplaysWrong : ChangeSpec := { name := "arenaReplays", fn := fun _ => fun
  | [d1, d2] => { results := [.lit (.bool false)], args := [d1, d2] }
  | _ => none }
def ArenaReplaysWrongFalsely : Prop := arenaReplaysRow.holds Try.pinned (OpenSpec.ofChange arenaReplaysWrong)

/-- 'wayfarelaw03.ArenaSerial': WHATEVER THE INPUT: true; the input reads as it did. -/
def arenaSerialSpec : ChangeSpec := { name := "arenaSerial", fn := fun _ => fun
  | [d1, d2] => { results := [.lit (.bool true)], args := [d1, d2] }
  | _ => none }
def arenaSerialRow : OpenClaim := { program := "ytfgchkkljlbmcaa", sum := "acbe158a765851431091ade31b56d553d078d530c2f18e9af8cc78d23fe4a235", func := "wayfare/wayfarelaw03.ArenaSerial", spec := "arenaSerial", inPlace := ["(*internal/sync.Mutex).Lock", "internal/race.Disable", "sync/atomic.CompareAndSwapInt32", "internal/race.Enable", "internal/race.Acquire", "(*internal/sync.Mutex).lockSlow", "internal/sync.runtime_canSpin", "internal/sync.runtime_doSpin", "internal/sync.throw", "internal/sync.runtime_nanotime", "internal/sync.runtime_SemacquireMutex", "sync/atomic.AddInt32", "(*internal/sync.Mutex).Unlock", "internal/race.ReleaseMerge", "(*internal/sync.Mutex).unlockSlow", "internal/sync.fatal", "internal/sync.runtime_Semrelease"], apart := false }
def ArenaSerialSaid : Prop := arenaSerialRow.holds Try.pinned (OpenSpec.ofChange arenaSerialSpec)

/-- ITS FALSE NEIGHBOUR: 'it returns false'. Refute it at one input. -/
def arenaSerialWrong : ChangeSpec := { name := "arenaSerial", fn := fun _ => fun
  | [d1, d2] => { results := [.lit (.bool false)], args := [d1, d2] }
  | _ => none }
def ArenaSerialWrongFalsely : Prop := arenaSerialRow.holds Try.pinned (OpenSpec.ofChange arenaSerialWrong)

/-- 'wayfarelaw03.ArenaTold': WHATEVER THE INPUT: true; the input reads as it did. -/
def arenaToldSpec : ChangeSpec := { name := "arenaTold", fn := fun _ => fun
  | [d1, d2, d3, d4, d5] => { results := [.lit (.bool true)], args := [d1, d2, d3, d4, d5] }
  | _ => none }
def arenaToldRow : OpenClaim := { program := "ytfgchkkljlbmcaa", sum := "acbe158a765851431091ade31b56d553d078d530c2f18e9af8cc78d23fe4a235", func := "wayfare/wayfarelaw03.ArenaTold", spec := "arenaTold", inPlace := ["(*internal/sync.Mutex).Lock", "internal/race.Disable", "sync/atomic.CompareAndSwapInt32", "internal/race.Enable", "internal/race.Acquire", "(*internal/sync.Mutex).lockSlow", "internal/sync.runtime_canSpin", "internal/sync.runtime_doSpin", "internal/sync.throw", "internal/sync.runtime_nanotime", "internal/sync.runtime_SemacquireMutex", "sync/atomic.AddInt32", "(*internal/sync.Mutex).Unlock", "internal/race.ReleaseMerge", "(*internal/sync.Mutex).unlockSlow", "internal/sync.fatal", "internal/sync.runtime_Semrelease"], apart := false }
def ArenaToldSaid : Prop := arenaToldRow.holds Try.pinned (OpenSpec.ofChange arenaToldSpec)

/-- ITS FALSE NEIGHBOUR: 'it returns false'. Refute it at one input. -/
def arenaToldWrong : ChangeSpec := { name := "arenaTold", fn := fun _ => fun
  | [d1, d2, d3, d4, d5] => { results := [.lit (.bool false)], args := [d1, d2, d3, d4, d5] }
  | _ => none }
def ArenaToldWrongFalsely : Prop := arenaToldRow.holds Try.pinned (OpenSpec.ofChange arenaToldWrong)

/-- 'wayfarelaw03.ArenaStops': WHATEVER THE INPUT: true; the input reads as it did. -/
def arenaStopsSpec : ChangeSpec := { name := "arenaStops", fn := fun _ => fun
  | [d1, d2, d3, d4] => { results := [.lit (.bool true)], args := [d1, d2, d3, d4] }
  | _ => none }
def arenaStopsRow : OpenClaim := { program := "ytfgchkkljlbmcaa", sum := "acbe158a765851431091ade31b56d553d078d530c2f18e9af8cc78d23fe4a235", func := "wayfare/wayfarelaw03.ArenaStops", spec := "arenaStops", inPlace := ["(*internal/sync.Mutex).Lock", "internal/race.Disable", "sync/atomic.CompareAndSwapInt32", "internal/race.Enable", "internal/race.Acquire", "(*internal/sync.Mutex).lockSlow", "internal/sync.runtime_canSpin", "internal/sync.runtime_doSpin", "internal/sync.throw", "internal/sync.runtime_nanotime", "internal/sync.runtime_SemacquireMutex", "sync/atomic.AddInt32", "(*internal/sync.Mutex).Unlock", "internal/race.ReleaseMerge", "(*internal/sync.Mutex).unlockSlow", "internal/sync.fatal", "internal/sync.runtime_Semrelease"], apart := false }
def ArenaStopsSaid : Prop := arenaStopsRow.holds Try.pinned (OpenSpec.ofChange arenaStopsSpec)

/-- ITS FALSE NEIGHBOUR: 'it returns false'. Refute it at one input. -/
def arenaStopsWrong : ChangeSpec := { name := "arenaStops", fn := fun _ => fun
  | [d1, d2, d3, d4] => { results := [.lit (.bool false)], args := [d1, d2, d3, d4] }
  | _ => none }
def ArenaStopsWrongFalsely : Prop := arenaStopsRow.holds Try.pinned (OpenSpec.ofChange arenaStopsWrong)

/-- 'wayfarelaw03.ArenaAgrees': WHATEVER THE INPUT: true; the input reads as it did. -/
def arenaAgreesSpec : ChangeSpec := { name := "arenaAgrees", fn := fun _ => fun
  | [d] => { results := [.lit (.bool true)], args := [d] }
  | _ => none }
def arenaAgreesRow : OpenClaim := { program := "ytfgchkkljlbmcaa", sum := "acbe158a765851431091ade31b56d553d078d530c2f18e9af8cc78d23fe4a235", func := "wayfare/wayfarelaw03.ArenaAgrees", spec := "arenaAgrees", inPlace := ["(*internal/sync.Mutex).Lock", "internal/race.Disable", "sync/atomic.CompareAndSwapInt32", "internal/race.Enable", "internal/race.Acquire", "(*internal/sync.Mutex).lockSlow", "internal/sync.runtime_canSpin", "internal/sync.runtime_doSpin", "internal/sync.throw", "internal/sync.runtime_nanotime", "internal/sync.runtime_SemacquireMutex", "sync/atomic.AddInt32", "(*internal/sync.Mutex).Unlock", "internal/race.ReleaseMerge", "(*internal/sync.Mutex).unlockSlow", "internal/sync.fatal", "internal/sync.runtime_Semrelease"], apart := false }
def ArenaAgreesSaid : Prop := arenaAgreesRow.holds Try.pinned (OpenSpec.ofChange arenaAgreesSpec)

/-- ITS FALSE NEIGHBOUR: 'it returns false'. Refute it at one input. -/
def arenaAgreesWrong : ChangeSpec := { name := "arenaAgrees", fn := fun _ => fun
  | [d] => { results := [.lit (.bool false)], args := [d] }
  | _ => none }
def ArenaAgreesWrongFalsely : Prop := arenaAgreesRow.holds Try.pinned (OpenSpec.ofChange arenaAgreesWrong)

/-- 'wayfarelaw03.ArenaFresh': WHATEVER THE INPUT: true; the input reads as it did. -/
def arenaFreshSpec : ChangeSpec := { name := "arenaFresh", fn := fun _ => fun
  | [d1, d2] => { results := [.lit (.bool true)], args := [d1, d2] }
  | _ => none }
def arenaFreshRow : OpenClaim := { program := "ytfgchkkljlbmcaa", sum := "acbe158a765851431091ade31b56d553d078d530c2f18e9af8cc78d23fe4a235", func := "wayfare/wayfarelaw03.ArenaFresh", spec := "arenaFresh", inPlace := ["(*internal/sync.Mutex).Lock", "internal/race.Disable", "sync/atomic.CompareAndSwapInt32", "internal/race.Enable", "internal/race.Acquire", "(*internal/sync.Mutex).lockSlow", "internal/sync.runtime_canSpin", "internal/sync.runtime_doSpin", "internal/sync.throw", "internal/sync.runtime_nanotime", "internal/sync.runtime_SemacquireMutex", "sync/atomic.AddInt32", "(*internal/sync.Mutex).Unlock", "internal/race.ReleaseMerge", "(*internal/sync.Mutex).unlockSlow", "internal/sync.fatal", "internal/sync.runtime_Semrelease"], apart := false }
def ArenaFreshSaid : Prop := arenaFreshRow.holds Try.pinned (OpenSpec.ofChange arenaFreshSpec)

/-- ITS FALSE NEIGHBOUR: 'it returns false'. Refute it at one input. -/
def arenaFreshWrong : ChangeSpec := { name := "arenaFresh", fn := fun _ => fun
  | [d1, d2] => { results := [.lit (.bool false)], args := [d1, d2] }
  | _ => none }
def ArenaFreshWrongFalsely : Prop := arenaFreshRow.holds Try.pinned (OpenSpec.ofChange arenaFreshWrong)

/- THE SECOND FORM. 'bulk': how many values and letters a reading holds, each counted each time it is reached (what is shared counts as often as it is met; a slice's spare places count too). A statement '..UptoSaid' is the law's where the arguments, and the package variables that the reading takes, are together of bulk at most 1048576: NARROWER than '..Said'. Prove '..Said' where nothing that the law and all that it calls make is longer than what came in: it says more and counts as full. Else prove '..UptoSaid'. A law counts once. -/
mutual
def uptoBulk {H : Type} : DataW H → Nat
  | .lit (.string bytes) => bytes.length + 1
  | .lit _ => 1
  | .nil => 1
  | .ptr d => uptoBulk d + 1
  | .slice elems spare => uptoBulkAll elems + uptoBulkAll spare + 1
  | .agg parts => uptoBulkAll parts + 1
  | .iface _ d => uptoBulk d + 1
  | .map entries => uptoBulkEntries entries + 1
  | .held _ => 1
def uptoBulkAll {H : Type} : List (DataW H) → Nat
  | [] => 0
  | d :: r => uptoBulk d + uptoBulkAll r
def uptoBulkEntries {H : Type} : List (Lit × DataW H) → Nat
  | [] => 0
  | x :: r => uptoBulkEntry x + uptoBulkEntries r
def uptoBulkEntry {H : Type} : Lit × DataW H → Nat
  | (.string bytes, d) => bytes.length + uptoBulk d + 1
  | (_, d) => uptoBulk d + 1
 end
def uptoSmall : (H : Type) → List (DataW H) → Bool := fun _ ds => decide (uptoBulkAll ds ≤ 1048576)
def OpenSpec.upto (s : _root_.Go.ChangeSpec) : _root_.Go.OpenSpec := { _root_.Go.OpenSpec.ofChange s with cond := some uptoSmall }

/-- 'wayfarelaw03.ArenaAccesses', WHERE WHAT IT READS IS OF BULK AT MOST 1048576: true; the input reads as it did. -/
def arenaAccessesUptoRow : OpenClaim := { program := "ytfgchkkljlbmcaa", sum := "acbe158a765851431091ade31b56d553d078d530c2f18e9af8cc78d23fe4a235", func := "wayfare/wayfarelaw03.ArenaAccesses", spec := "arenaAccesses", inPlace := ["(*internal/sync.Mutex).Lock", "internal/race.Disable", "sync/atomic.CompareAndSwapInt32", "internal/race.Enable", "internal/race.Acquire", "(*internal/sync.Mutex).lockSlow", "internal/sync.runtime_canSpin", "internal/sync.runtime_doSpin", "internal/sync.throw", "internal/sync.runtime_nanotime", "internal/sync.runtime_SemacquireMutex", "sync/atomic.AddInt32", "(*internal/sync.Mutex).Unlock", "internal/race.ReleaseMerge", "(*internal/sync.Mutex).unlockSlow", "internal/sync.fatal", "internal/sync.runtime_Semrelease"], apart := false, narrowed := true }
def ArenaAccessesUptoSaid : Prop := arenaAccessesUptoRow.holds Try.pinned (OpenSpec.upto arenaAccessesSpec)

/-- 'wayfarelaw03.ArenaPlays', WHERE WHAT IT READS IS OF BULK AT MOST 1048576: true; the input reads as it did. -/
def arenaPlaysUptoRow : OpenClaim := { program := "ytfgchkkljlbmcaa", sum := "acbe158a765851431091ade31b56d553d078d530c2f18e9af8cc78d23fe4a235", func := "wayfare/wayfarelaw03.ArenaPlays", spec := "arenaPlays", inPlace := ["(*internal/sync.Mutex).Lock", "internal/race.Disable", "sync/atomic.CompareAndSwapInt32", "internal/race.Enable", "internal/race.Acquire", "(*internal/sync.Mutex).lockSlow", "internal/sync.runtime_canSpin", "internal/sync.runtime_doSpin", "internal/sync.throw", "internal/sync.runtime_nanotime", "internal/sync.runtime_SemacquireMutex", "sync/atomic.AddInt32", "(*internal/sync.Mutex).Unlock", "internal/race.ReleaseMerge", "(*internal/sync.Mutex).unlockSlow", "internal/sync.fatal", "internal/sync.runtime_Semrelease"], apart := false, narrowed := true }
def ArenaPlaysUptoSaid : Prop := arenaPlaysUptoRow.holds Try.pinned (OpenSpec.upto arenaPlaysSpec)

/-- 'wayfarelaw03.ArenaReplays', WHERE WHAT IT READS IS OF BULK AT MOST 1048576: true; the input reads as it did. -/
def arenaReplaysUptoRow : OpenClaim := { program := "ytfgchkkljlbmcaa", sum := "acbe158a765851431091ade31b56d553d078d530c2f18e9af8cc78d23fe4a235", func := "wayfare/wayfarelaw03.ArenaReplays", spec := "arenaReplays", apart := false, narrowed := true }
def ArenaReplaysUptoSaid : Prop := arenaReplaysUptoRow.holds Try.pinned (OpenSpec.upto arenaReplaysSpec)

/-- 'wayfarelaw03.ArenaSerial', WHERE WHAT IT READS IS OF BULK AT MOST 1048576: true; the input reads as it did. -/
def arenaSerialUptoRow : OpenClaim := { program := "ytfgchkkljlbmcaa", sum := "acbe158a765851431091ade31b56d553d078d530c2f18e9af8cc78d23fe4a235", func := "wayfare/wayfarelaw03.ArenaSerial", spec := "arenaSerial", inPlace := ["(*internal/sync.Mutex).Lock", "internal/race.Disable", "sync/atomic.CompareAndSwapInt32", "internal/race.Enable", "internal/race.Acquire", "(*internal/sync.Mutex).lockSlow", "internal/sync.runtime_canSpin", "internal/sync.runtime_doSpin", "internal/sync.throw", "internal/sync.runtime_nanotime", "internal/sync.runtime_SemacquireMutex", "sync/atomic.AddInt32", "(*internal/sync.Mutex).Unlock", "internal/race.ReleaseMerge", "(*internal/sync.Mutex).unlockSlow", "internal/sync.fatal", "internal/sync.runtime_Semrelease"], apart := false, narrowed := true }
def ArenaSerialUptoSaid : Prop := arenaSerialUptoRow.holds Try.pinned (OpenSpec.upto arenaSerialSpec)

/-- 'wayfarelaw03.ArenaTold', WHERE WHAT IT READS IS OF BULK AT MOST 1048576: true; the input reads as it did. -/
def arenaToldUptoRow : OpenClaim := { program := "ytfgchkkljlbmcaa", sum := "acbe158a765851431091ade31b56d553d078d530c2f18e9af8cc78d23fe4a235", func := "wayfare/wayfarelaw03.ArenaTold", spec := "arenaTold", inPlace := ["(*internal/sync.Mutex).Lock", "internal/race.Disable", "sync/atomic.CompareAndSwapInt32", "internal/race.Enable", "internal/race.Acquire", "(*internal/sync.Mutex).lockSlow", "internal/sync.runtime_canSpin", "internal/sync.runtime_doSpin", "internal/sync.throw", "internal/sync.runtime_nanotime", "internal/sync.runtime_SemacquireMutex", "sync/atomic.AddInt32", "(*internal/sync.Mutex).Unlock", "internal/race.ReleaseMerge", "(*internal/sync.Mutex).unlockSlow", "internal/sync.fatal", "internal/sync.runtime_Semrelease"], apart := false, narrowed := true }
def ArenaToldUptoSaid : Prop := arenaToldUptoRow.holds Try.pinned (OpenSpec.upto arenaToldSpec)

/-- 'wayfarelaw03.ArenaStops', WHERE WHAT IT READS IS OF BULK AT MOST 1048576: true; the input reads as it did. -/
def arenaStopsUptoRow : OpenClaim := { program := "ytfgchkkljlbmcaa", sum := "acbe158a765851431091ade31b56d553d078d530c2f18e9af8cc78d23fe4a235", func := "wayfare/wayfarelaw03.ArenaStops", spec := "arenaStops", inPlace := ["(*internal/sync.Mutex).Lock", "internal/race.Disable", "sync/atomic.CompareAndSwapInt32", "internal/race.Enable", "internal/race.Acquire", "(*internal/sync.Mutex).lockSlow", "internal/sync.runtime_canSpin", "internal/sync.runtime_doSpin", "internal/sync.throw", "internal/sync.runtime_nanotime", "internal/sync.runtime_SemacquireMutex", "sync/atomic.AddInt32", "(*internal/sync.Mutex).Unlock", "internal/race.ReleaseMerge", "(*internal/sync.Mutex).unlockSlow", "internal/sync.fatal", "internal/sync.runtime_Semrelease"], apart := false, narrowed := true }
def ArenaStopsUptoSaid : Prop := arenaStopsUptoRow.holds Try.pinned (OpenSpec.upto arenaStopsSpec)

/-- 'wayfarelaw03.ArenaAgrees', WHERE WHAT IT READS IS OF BULK AT MOST 1048576: true; the input reads as it did. -/
def arenaAgreesUptoRow : OpenClaim := { program := "ytfgchkkljlbmcaa", sum := "acbe158a765851431091ade31b56d553d078d530c2f18e9af8cc78d23fe4a235", func := "wayfare/wayfarelaw03.ArenaAgrees", spec := "arenaAgrees", inPlace := ["(*internal/sync.Mutex).Lock", "internal/race.Disable", "sync/atomic.CompareAndSwapInt32", "internal/race.Enable", "internal/race.Acquire", "(*internal/sync.Mutex).lockSlow", "internal/sync.runtime_canSpin", "internal/sync.runtime_doSpin", "internal/sync.throw", "internal/sync.runtime_nanotime", "internal/sync.runtime_SemacquireMutex", "sync/atomic.AddInt32", "(*internal/sync.Mutex).Unlock", "internal/race.ReleaseMerge", "(*internal/sync.Mutex).unlockSlow", "internal/sync.fatal", "internal/sync.runtime_Semrelease"], apart := false, narrowed := true }
def ArenaAgreesUptoSaid : Prop := arenaAgreesUptoRow.holds Try.pinned (OpenSpec.upto arenaAgreesSpec)

/-- 'wayfarelaw03.ArenaFresh', WHERE WHAT IT READS IS OF BULK AT MOST 1048576: true; the input reads as it did. -/
def arenaFreshUptoRow : OpenClaim := { program := "ytfgchkkljlbmcaa", sum := "acbe158a765851431091ade31b56d553d078d530c2f18e9af8cc78d23fe4a235", func := "wayfare/wayfarelaw03.ArenaFresh", spec := "arenaFresh", inPlace := ["(*internal/sync.Mutex).Lock", "internal/race.Disable", "sync/atomic.CompareAndSwapInt32", "internal/race.Enable", "internal/race.Acquire", "(*internal/sync.Mutex).lockSlow", "internal/sync.runtime_canSpin", "internal/sync.runtime_doSpin", "internal/sync.throw", "internal/sync.runtime_nanotime", "internal/sync.runtime_SemacquireMutex", "sync/atomic.AddInt32", "(*internal/sync.Mutex).Unlock", "internal/race.ReleaseMerge", "(*internal/sync.Mutex).unlockSlow", "internal/sync.fatal", "internal/sync.runtime_Semrelease"], apart := false, narrowed := true }
def ArenaFreshUptoSaid : Prop := arenaFreshUptoRow.holds Try.pinned (OpenSpec.upto arenaFreshSpec)

end Rows
end Go.Proofs.Ytfgchkkljlbmcaa
