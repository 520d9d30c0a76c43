/- The numbers under which the program holds sync.Mutex's functions and types, and that it holds them. (tools/locks.py) -/
import Derived.Test.YtlgieefojcgodaaGreatProg
import Derived.Conc.MuLib
import Derived.KernelRfl
namespace Go.Proofs
abbrev Tryz.muLink : Go.Conc.Locks.MuLink := { lock := 113, unlock := 114, ilock := 128, iunlock := 129, lockSlow := 135, unlockSlow := 138, disable := 131, enable := 133, acquire := 134, relMerge := 136, cas32 := 132, add32 := 137, tMutex := 136, tIMutex := 134, tPMutex := 158, tPIMutex := 162, tPI32 := 164, tUP := 166, tNoCopy := 132, tU32 := 122 }
theorem Tryz.muLib : Go.Conc.Locks.MuLib Tryz.prog Tryz.muLink :=
  ⟨Tryz.func113, Tryz.func114, Tryz.func128, Tryz.func129, Tryz.func131, Tryz.func133, Tryz.func134, Tryz.func136, Tryz.func132, Tryz.func137, Tryz.underlying134, Tryz.runUnderlying134, Tryz.sizeOf134, Tryz.isAgg134, Tryz.zeroValue134, Tryz.underlying136, Tryz.runUnderlying136, Tryz.sizeOf136, Tryz.isAgg136, Tryz.zeroValue136, Tryz.underlying158, Tryz.runUnderlying158, Tryz.sizeOf158, Tryz.isAgg158, Tryz.zeroValue158, Tryz.underlying162, Tryz.runUnderlying162, Tryz.sizeOf162, Tryz.isAgg162, Tryz.zeroValue162, Tryz.underlying164, Tryz.runUnderlying164, Tryz.sizeOf164, Tryz.isAgg164, Tryz.zeroValue164, Tryz.underlying166, Tryz.runUnderlying166, Tryz.sizeOf166, Tryz.isAgg166, Tryz.zeroValue166, Tryz.underlying132, Tryz.runUnderlying132, Tryz.sizeOf132, Tryz.isAgg132, Tryz.zeroValue132, Tryz.underlying21, Tryz.runUnderlying21, Tryz.sizeOf21, Tryz.isAgg21, Tryz.zeroValue21, (by kernel_rfl)⟩
end Go.Proofs
