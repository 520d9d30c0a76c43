/- The numbers under which the program holds sync.Mutex's functions and types, and that it holds them. (tools/locks.py) -/
import Derived.Test.YtecceaijdjnflaaGreatProg
import Derived.Conc.MuLib
import Derived.KernelRfl
namespace Go.Proofs
abbrev Tryz.muLink : Go.Conc.Locks.MuLink := { lock := 70, unlock := 71, ilock := 84, iunlock := 85, lockSlow := 102, unlockSlow := 105, disable := 98, enable := 100, acquire := 101, relMerge := 103, cas32 := 99, add32 := 104, tMutex := 99, tIMutex := 97, tPMutex := 121, tPIMutex := 136, tPI32 := 138, tUP := 140, tNoCopy := 94, tU32 := 95 }
theorem Tryz.muLib : Go.Conc.Locks.MuLib Tryz.prog Tryz.muLink :=
  ⟨Tryz.func70, Tryz.func71, Tryz.func84, Tryz.func85, Tryz.func98, Tryz.func100, Tryz.func101, Tryz.func103, Tryz.func99, Tryz.func104, Tryz.underlying97, Tryz.runUnderlying97, Tryz.sizeOf97, Tryz.isAgg97, Tryz.zeroValue97, Tryz.underlying99, Tryz.runUnderlying99, Tryz.sizeOf99, Tryz.isAgg99, Tryz.zeroValue99, Tryz.underlying121, Tryz.runUnderlying121, Tryz.sizeOf121, Tryz.isAgg121, Tryz.zeroValue121, Tryz.underlying136, Tryz.runUnderlying136, Tryz.sizeOf136, Tryz.isAgg136, Tryz.zeroValue136, Tryz.underlying138, Tryz.runUnderlying138, Tryz.sizeOf138, Tryz.isAgg138, Tryz.zeroValue138, Tryz.underlying140, Tryz.runUnderlying140, Tryz.sizeOf140, Tryz.isAgg140, Tryz.zeroValue140, Tryz.underlying94, Tryz.runUnderlying94, Tryz.sizeOf94, Tryz.isAgg94, Tryz.zeroValue94, Tryz.underlying21, Tryz.runUnderlying21, Tryz.sizeOf21, Tryz.isAgg21, Tryz.zeroValue21, (by kernel_rfl)⟩
end Go.Proofs
