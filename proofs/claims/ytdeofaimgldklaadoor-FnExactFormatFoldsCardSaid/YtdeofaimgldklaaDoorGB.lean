/- The laws' own helpers on slices of edges: toEdgeS, eqEdgeS. -/
import Derived.Test.YtdeofaimgldklaaDoorGA
namespace Go.Proofs.YtdeofaimgldklaaDoor
open Go.RowKit
set_option linter.unusedVariables false

theorem made_edges (n : Nat) : (madeCells #[.int .i64 0, .int .i64 0, .int .i64 0] (n * 3)).toList = (List.replicate (n * 3) (0 : Int)).map iv := by
  unfold madeCells
  apply List.ext_getElem?
  intro i
  simp only [Array.toList_map, Array.toList_range, List.getElem?_map, List.map_replicate]
  by_cases h : i < n * 3
  · have h3 : i % 3 < 3 := Nat.mod_lt _ (by omega)
    rw [List.getElem?_range h, List.getElem?_replicate, if_pos h]
    have e : i % 3 = 0 ∨ i % 3 = 1 ∨ i % 3 = 2 := by omega
    rcases e with e | e | e <;> simp [e, iv]
  · rw [List.getElem?_eq_none (by simpa using h), List.getElem?_eq_none (by simpa using h)]
    rfl
/-- The copy, after m cells. -/
def padS (zs : List Int) (m : Nat) : List Int := zs.take m ++ List.replicate (zs.length - m) 0
theorem padS_length (zs : List Int) (m : Nat) (h : m ≤ zs.length) : (padS zs m).length = zs.length := by simp [padS]; omega
theorem padS_zero (zs : List Int) : padS zs 0 = List.replicate zs.length 0 := by simp [padS]
theorem padS_full (zs : List Int) : padS zs zs.length = zs := by simp [padS]
theorem padS_step (zs : List Int) (k : Nat) (h : k < zs.length) : (padS zs k).set k (zs.getD k 0) = padS zs (k + 1) := padI_step zs k h
end Go.Proofs.YtdeofaimgldklaaDoor
