/-
  The numbers of sync.Mutex's functions and types in this seat.
-/
import Derived.Test.YtofopfjmcbgfjaaProg
import Derived.Conc.MuLone
import Derived.KernelRfl
namespace Go.Proofs
abbrev Try.muLink : Go.Conc.Locks.MuLink := { lock := 61, unlock := 62, ilock := 80, iunlock := 81, lockSlow := 104, unlockSlow := 107, disable := 100, enable := 102, acquire := 103, relMerge := 105, cas32 := 101, add32 := 106, tMutex := 75, tIMutex := 73, tPMutex := 134, tPIMutex := 147, tPI32 := 149, tUP := 151, tNoCopy := 70, tU32 := 71 }
theorem Try.muLib : Go.Conc.Locks.MuLib Try.prog Try.muLink :=
  ⟨Try.func61, Try.func62, Try.func80, Try.func81, Try.func100, Try.func102, Try.func103, Try.func105, Try.func101, Try.func106, Try.underlying73, Try.runUnderlying73, Try.sizeOf73, Try.isAgg73, Try.zeroValue73, Try.underlying75, Try.runUnderlying75, Try.sizeOf75, Try.isAgg75, Try.zeroValue75, Try.underlying134, Try.runUnderlying134, Try.sizeOf134, Try.isAgg134, Try.zeroValue134, Try.underlying147, Try.runUnderlying147, Try.sizeOf147, Try.isAgg147, Try.zeroValue147, Try.underlying149, Try.runUnderlying149, Try.sizeOf149, Try.isAgg149, Try.zeroValue149, Try.underlying151, Try.runUnderlying151, Try.sizeOf151, Try.isAgg151, Try.zeroValue151, Try.underlying70, Try.runUnderlying70, Try.sizeOf70, Try.isAgg70, Try.zeroValue70, Try.underlying21, Try.runUnderlying21, Try.sizeOf21, Try.isAgg21, Try.zeroValue21, (by kernel_rfl)⟩
end Go.Proofs
