import Derived.Test.YtfpklgmahbhecaaGreatTX
import Derived.Test.YtfpklgmahbhecaaGreatUK
namespace Go.Proofs.YtfpklgmahbhecaaGreat
open Go.RowKit
set_option linter.unusedVariables false
set_option linter.unusedSimpArgs false
theorem orders {r s : Int} {es : List Ed} (cs : List Int) (hg : isGr r s es = true) :
 (foL r s es cs).length = (faL r s es).length ∧ cgS r (foS r s es cs) (foE r s es cs) = cgS r (faS r s es) (faE r s es) ∧ cgE r (foS r s es cs) (foE r s es cs) = cgE r (faS r s es) (faE r s es) ∧
  crS r s es = crS r (foS r s es cs) (foE r s es cs) ∧ crE r s es = crE r (foS r s es cs) (foE r s es cs) := by
 obtain ⟨f, h⟩ := fo_iso cs [] hg
 obtain ⟨a1, a2, a3⟩ := fa_fo r s es
 have hA := fo_fo cs hg
 have hB := fo_fo [] hg
 have gA := (fo_gr hA).1
 have gB := (fo_gr hB).1
 have la := isGr_lim gA
 have lb := isGr_lim gB
 have z1 := fo_size cs hg
 have z2 := fo_size [] hg
 obtain ⟨f', h', _, _⟩ := h.symm (by omega)
 have e1 := h.le (by omega) (by omega)
 have e2 := h'.le (by omega) (by omega)
 obtain ⟨c1, c2⟩ := iso_canon h hA hB
 rw [← a1, ← a2] at c1 c2
 have i1 := fa_id hA
 refine ⟨?_, c1, c2, ?_⟩
 · rw [a3]; omega
 · obtain ⟨t, ht⟩ := iso_trim h gA gB
   obtain ⟨d1, d2⟩ := iso_canon ht (tm_fo hA) (tm_fo hB)
   rw [← a1, ← a2] at d1 d2
   unfold crS crE
   rw [i1.1, i1.2.1]
   exact ⟨d1.symm, d2.symm⟩
end Go.Proofs.YtfpklgmahbhecaaGreat
