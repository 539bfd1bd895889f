import Derived.Test.YtechceagghcipaaGreatDoorProg
import Derived.Conc.MuLone
import Derived.KernelRfl
namespace Go.Proofs
abbrev Tryz.muLink : Go.Conc.Locks.MuLink := { lock := 155, unlock := 156, ilock := 185, iunlock := 186, lockSlow := 210, unlockSlow := 213, disable := 206, enable := 208, acquire := 209, relMerge := 211, cas32 := 207, add32 := 212, tMutex := 120, tIMutex := 118, tPMutex := 231, tPIMutex := 242, tPI32 := 244, tUP := 246, tNoCopy := 115, tU32 := 116 }
theorem Tryz.muLib : Go.Conc.Locks.MuLib Tryz.prog Tryz.muLink :=
 ⟨Tryz.func155, Tryz.func156, Tryz.func185, Tryz.func186, Tryz.func206, Tryz.func208, Tryz.func209, Tryz.func211, Tryz.func207, Tryz.func212, Tryz.underlying118, Tryz.runUnderlying118, Tryz.sizeOf118, Tryz.isAgg118, Tryz.zeroValue118, Tryz.underlying120, Tryz.runUnderlying120, Tryz.sizeOf120, Tryz.isAgg120, Tryz.zeroValue120, Tryz.underlying231, Tryz.runUnderlying231, Tryz.sizeOf231, Tryz.isAgg231, Tryz.zeroValue231, Tryz.underlying242, Tryz.runUnderlying242, Tryz.sizeOf242, Tryz.isAgg242, Tryz.zeroValue242, Tryz.underlying244, Tryz.runUnderlying244, Tryz.sizeOf244, Tryz.isAgg244, Tryz.zeroValue244, Tryz.underlying246, Tryz.runUnderlying246, Tryz.sizeOf246, Tryz.isAgg246, Tryz.zeroValue246, Tryz.underlying115, Tryz.runUnderlying115, Tryz.sizeOf115, Tryz.isAgg115, Tryz.zeroValue115, Tryz.underlying21, Tryz.runUnderlying21, Tryz.sizeOf21, Tryz.isAgg21, Tryz.zeroValue21, (by kernel_rfl)⟩
end Go.Proofs
