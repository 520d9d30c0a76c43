/- The numbers under which the program holds sync.Mutex's functions and types, and that it holds them. (tools/locks.py) -/
import Derived.Test.YtjnhhhnehkmfmaaGreatProg
import Derived.Conc.MuLib
import Derived.KernelRfl
namespace Go.Proofs
abbrev Tryz.muLink : Go.Conc.Locks.MuLink := { lock := 128, unlock := 129, ilock := 148, iunlock := 149, lockSlow := 160, unlockSlow := 163, disable := 156, enable := 158, acquire := 159, relMerge := 161, cas32 := 157, add32 := 162, tMutex := 139, tIMutex := 137, tPMutex := 164, tPIMutex := 175, tPI32 := 177, tUP := 179, tNoCopy := 134, tU32 := 135 }
theorem Tryz.muLib : Go.Conc.Locks.MuLib Tryz.prog Tryz.muLink :=
  ⟨Tryz.func128, Tryz.func129, Tryz.func148, Tryz.func149, Tryz.func156, Tryz.func158, Tryz.func159, Tryz.func161, Tryz.func157, Tryz.func162, Tryz.underlying137, Tryz.runUnderlying137, Tryz.sizeOf137, Tryz.isAgg137, Tryz.zeroValue137, Tryz.underlying139, Tryz.runUnderlying139, Tryz.sizeOf139, Tryz.isAgg139, Tryz.zeroValue139, Tryz.underlying164, Tryz.runUnderlying164, Tryz.sizeOf164, Tryz.isAgg164, Tryz.zeroValue164, Tryz.underlying175, Tryz.runUnderlying175, Tryz.sizeOf175, Tryz.isAgg175, Tryz.zeroValue175, Tryz.underlying177, Tryz.runUnderlying177, Tryz.sizeOf177, Tryz.isAgg177, Tryz.zeroValue177, Tryz.underlying179, Tryz.runUnderlying179, Tryz.sizeOf179, Tryz.isAgg179, Tryz.zeroValue179, Tryz.underlying134, Tryz.runUnderlying134, Tryz.sizeOf134, Tryz.isAgg134, Tryz.zeroValue134, Tryz.underlying21, Tryz.runUnderlying21, Tryz.sizeOf21, Tryz.isAgg21, Tryz.zeroValue21, (by kernel_rfl)⟩
end Go.Proofs
