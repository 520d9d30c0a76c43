/-
  DERIVED: THE SHELF's CONTRACTS AT THIS DUMP, IN PLAIN WORDS (tools/lay-plain.mjs out of 'TryzDlc.lean', which tools/lay-shelf.mjs wrote): THE SAME DECLARATIONS UNDER THE SAME NAMES: 'import', 'namespace', 'open', 'def', 'theorem' AND NOTHING ELSE: no command of the shelf's: FOR A HAND-IN. Each laying: the table of numbers ('.._ren') and one theorem, a field a fact of the dump's own or the kernel's comparison; each contract: ONE APPLICATION.
-/
import Derived.Shelf.SlicesE.Delete
import Derived.Shelf.SlicesE.Clone
import Derived.Shelf.SlicesQ.Contains
import Derived.Test.YtpjlamnjiilgbaaGreatProg
namespace Go.Proofs
open Go.Shelf
def Tryz.delV_ren : Go.Shelf.Ren := ⟨fun | 45 => 211 | n => n, fun | 22 => 209 | 23 => 212 | 3 => 3 | 4 => 4 | 0 => 0 | n => n, fun | n => n⟩
theorem Tryz.delV : Go.Proofs.SlLaysE.n45 Tryz.prog Tryz.delV_ren := {
  mixed := by kernel_rfl
  f45 := ⟨Tryz.f211.name, by decide, Tryz.func211.trans (congrArg some (by kernel_rfl))⟩
  t0 := Tryz.underlying0
  a0 := Tryz.isAgg0
  z0 := Tryz.sizeOf0
  v0 := Tryz.zeroValue0
  t3 := Tryz.underlying3
  a3 := Tryz.isAgg3
  z3 := Tryz.sizeOf3
  v3 := Tryz.zeroValue3
  t4 := Tryz.underlying4
  a4 := Tryz.isAgg4
  z4 := Tryz.sizeOf4
  v4 := Tryz.zeroValue4
  t22 := Tryz.underlying209
  a22 := Tryz.isAgg209
  z22 := Tryz.sizeOf209
  v22 := Tryz.zeroValue209
  a23 := Tryz.isAgg212
  z23 := Tryz.sizeOf212 }
def Tryz.clnV_ren : Go.Shelf.Ren := ⟨fun | 41 => 206 | n => n, fun | 22 => 209 | 23 => 212 | 4 => 4 | n => n, fun | n => n⟩
theorem Tryz.clnV : Go.Proofs.SlLaysE0.n41 Tryz.prog Tryz.clnV_ren := {
  mixed := by kernel_rfl
  f41 := ⟨Tryz.f206.name, by decide, Tryz.func206.trans (congrArg some (by kernel_rfl))⟩
  t4 := Tryz.underlying4
  a4 := Tryz.isAgg4
  z4 := Tryz.sizeOf4
  v4 := Tryz.zeroValue4
  t22 := Tryz.underlying209
  a22 := Tryz.isAgg209
  z22 := Tryz.sizeOf209
  v22 := Tryz.zeroValue209 }
end Go.Proofs
