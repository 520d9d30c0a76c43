/- Lists of words and their texts: ParseWords' contracts as the law's walk asks for them. -/
import Derived.Test.YtmafaglgegimfaaDoorSPs
import Derived.Test.YtmafaglgegimfaaDoorSPp
import Derived.Test.YtmafaglgegimfaaDoorLS4
import Derived.Test.YtmafaglgegimfaaDoorHSH
import Derived.Test.YtmafaglgegimfaaDoorShelf
namespace Go.Proofs.YtmafaglgegimfaaDoor
open Go.RowKit
set_option linter.unusedVariables false
set_option linter.unusedSimpArgs false

/-- The variable internal/bytealg.MaxLen holds some int in every world of the program's shape. -/
theorem cellMax {w : World} (h : w.ShapedOpen Tryd.prog) : ∃ m, w.cell? ⟨0, 0, none⟩ = some (.int .i64 m) := Tryd.laysM143.s1_3 w h
theorem iParWs2 (w0 w : World) (hb : Below w0.heap.size w0 w) (r : Int) (s : ByteArray) (hs : s.size ≤ 1048576) (mx : Int) (hmx : w0.cell? ⟨0, 0, none⟩ = some (.int .i64 mx)) :
    Calls Tryd.prog 5 #[.int .i64 r, .string s] w (LwWordsBool w (pwL r s.data.toList) (pwOk r s.data.toList)) := by
  rw [← (pw_same r s.data.toList).1, ← (pw_same r s.data.toList).2]
  refine progParWs w r s hs mx (below_cell hmx hb ?_)
  rcases Nat.eq_zero_or_pos w0.heap.size with h | h
  · unfold World.cell? at hmx
    rw [show w0.heap[(⟨0, 0, none⟩ : Addr).block]? = none from Array.getElem?_eq_none (by simp only; omega)] at hmx
    cases hmx
  · exact h
theorem pw_le (r : Int) (s : ByteArray) (hs : s.size ≤ 1048576) : (pwL r s.data.toList).length ≤ 1000000000 ∧ sumN ((pwL r s.data.toList).map List.length) ≤ 100000000 := by
  have h := pwL_length r s.data.toList
  have h2 : s.data.toList.length = s.size := by simp
  omega
end Go.Proofs.YtmafaglgegimfaaDoor
