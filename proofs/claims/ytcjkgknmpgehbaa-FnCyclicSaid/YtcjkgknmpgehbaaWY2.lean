/- Cyclic words, the model: CyclicCore, CyclicForm, CyclicLength. -/
import Derived.Test.YtcjkgknmpgehbaaWY1
import Derived.BigQuiet
namespace Go.Proofs.Ytcjkgknmpgehbaa
open Go.RowKit
set_option linter.unusedVariables false

/-- What a function that hands back two slices of ints leaves. -/
def Ints2Ret (w : World) (z1 z2 : List Int) (e : Ending) (w' : World) : Prop :=
  ∃ v1 v2, e = .returned (.tuple #[v1, v2]) ∧ RowI w' w.heap.size w'.heap.size v1 z1 ∧ RowI w' w.heap.size w'.heap.size v2 z2 ∧ Below w.heap.size w w'
/-- A part of a readable slice. -/
theorem ReadI.part {B : Nat} {w : World} {g off n cap : Nat} {zs : List Int} (h : ReadI B w (.slice (some ⟨g, off, none⟩) n cap) zs) (hn : n = zs.length) (j m cap' : Nat) (hjm : j + m ≤ zs.length) (hmc : m ≤ cap') :
    ReadI B w (.slice (some ⟨g, off + j, none⟩) m cap') ((zs.drop j).take m) := by
  subst hn
  have hl : ((zs.drop j).take m).length = m := by rw [List.length_take, List.length_drop]; omega
  obtain ⟨h0, a, cap0, hv, _, hr⟩ := h
  simp only [Value.slice.injEq] at hv
  obtain ⟨rfl, _, rfl⟩ := hv
  refine ⟨by omega, some ⟨g, off + j, none⟩, cap', by rw [hl], ⟨(fun e => by cases e), by omega⟩, ?_⟩
  rcases hr with h1 | ⟨b, o, hb, hB, hc⟩
  · left
    rw [h1]
    simp
  · right
    cases hb
    refine ⟨g, off + j, rfl, hB, fun i hi => ?_⟩
    rw [hl] at hi
    have := hc (j + i) (by omega)
    rw [Nat.add_assoc, this]
    congr 2
    rw [List.getD_eq_getElem?_getD, List.getD_eq_getElem?_getD, List.getElem?_take, if_pos hi, List.getElem?_drop]
/-- After j letters have been taken off both ends. -/
def cutJ (x : List Int) (j : Nat) : List Int := (x.drop j).take (x.length - 2 * j)
theorem cutJ_zero (x : List Int) : cutJ x 0 = x := by simp [cutJ]
theorem cutJ_length (x : List Int) (j : Nat) : (cutJ x j).length = x.length - 2 * j := by unfold cutJ; rw [List.length_take, List.length_drop]; omega
theorem cutJ_getD (x : List Int) (j i : Nat) (h : i < x.length - 2 * j) : (cutJ x j).getD i 0 = x.getD (j + i) 0 := by
  unfold cutJ
  rw [List.getD_eq_getElem?_getD, List.getD_eq_getElem?_getD, List.getElem?_take, if_pos h, List.getElem?_drop]
theorem cutJ_mid (x : List Int) (j : Nat) : mid (cutJ x j) = cutJ x (j + 1) := by
  refine ext_getD (by rw [mid_length, cutJ_length, cutJ_length]; omega) (fun i hi => ?_)
  rw [mid_length, cutJ_length] at hi
  rw [cutJ_getD _ _ _ (by omega)]
  unfold mid
  rw [List.getD_eq_getElem?_getD, List.getElem?_take, if_pos (by rw [cutJ_length]; exact hi), List.getElem?_drop, ← List.getD_eq_getElem?_getD, cutJ_getD _ _ _ (by omega)]
  congr 1
  omega
theorem take_snoc_getD {x : List Int} {j : Nat} (h : j < x.length) : x.take (j + 1) = x.take j ++ [x.getD j 0] := by
  rw [List.take_succ_eq_append_getElem h]
  simp [List.getD_eq_getElem?_getD, h]
/-- The test of the loop at place j. -/
theorem sc_cut {x : List Int} {j : Nat} : sc (cutJ x j) = decide (1 < x.length - 2 * j ∧ x.getD j 0 = ng (x.getD (x.length - 1 - j) 0) ∧ x.getD j 0 ≠ ng (x.getD j 0)) := by
  unfold sc
  rw [cutJ_length, decide_eq_decide]
  by_cases h : 1 < x.length - 2 * j
  · have e0 := cutJ_getD x j 0 (by omega)
    have e1 := cutJ_getD x j (x.length - 2 * j - 1) (by omega)
    rw [Nat.add_zero] at e0
    have e2 : j + (x.length - 2 * j - 1) = x.length - 1 - j := by omega
    rw [e2] at e1
    rw [e0, e1]
  · exact ⟨fun h' => absurd h'.1 h, fun h' => absurd h'.1 h⟩
theorem core_step {x : List Int} {j : Nat} (h : sc (cutJ x j) = true) (hj : 2 * j < x.length) : coreF (x.length - j) (cutJ x j) (x.take j) = coreF (x.length - (j + 1)) (cutJ x (j + 1)) (x.take (j + 1)) := by
  obtain ⟨f, hf⟩ : ∃ f, x.length - j = f + 1 := ⟨x.length - j - 1, by omega⟩
  have e0 := cutJ_getD x j 0 (by omega)
  rw [Nat.add_zero] at e0
  rw [hf, coreF_yes h, cutJ_mid, e0, ← take_snoc_getD (by omega)]
  congr 1
  omega
end Go.Proofs.Ytcjkgknmpgehbaa
