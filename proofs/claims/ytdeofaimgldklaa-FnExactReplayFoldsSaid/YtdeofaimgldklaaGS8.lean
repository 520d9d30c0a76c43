/- Graphs, the model: l4Add, StepsFrom. -/
import Derived.Test.YtdeofaimgldklaaGS6
import Derived.Test.YtdeofaimgldklaaWS1
namespace Go.Proofs.Ytdeofaimgldklaa
open Go.RowKit
set_option linter.unusedVariables false
set_option linter.unusedSimpArgs false

/-- x put into an ascending list. -/
def addZ (x : Int) : List Int → List Int
  | [] => [x]
  | y :: ys => if y < x then y :: addZ x ys else if y = x then y :: ys else x :: y :: ys
theorem addZ_length (x : Int) (l : List Int) : (addZ x l).length ≤ l.length + 1 := by
  induction l with
  | nil => simp [addZ]
  | cons y ys ih =>
    unfold addZ
    split
    · simp only [List.length_cons]; omega
    · split <;> simp
theorem addZ_nil (x : Int) : addZ x [] = [x] := rfl
theorem addZ_lt {x y : Int} (ys : List Int) (h : y < x) : addZ x (y :: ys) = y :: addZ x ys := by rw [addZ, if_pos h]
theorem addZ_eq {x y : Int} (ys : List Int) (h : y = x) : addZ x (y :: ys) = y :: ys := by rw [addZ, if_neg (by omega), if_pos h]
theorem addZ_gt {x y : Int} (ys : List Int) (h : x < y) : addZ x (y :: ys) = x :: y :: ys := by rw [addZ, if_neg (by omega), if_neg (by omega)]
theorem drop_one {l : List Int} {k : Nat} (h : k < l.length) : l.drop k = l.getD k 0 :: l.drop (k + 1) := by
  rw [List.drop_eq_getElem_cons h, List.getD_eq_getElem?_getD, List.getElem?_eq_getElem h]; rfl
theorem OwnsI.form4 {w : World} {base : Nat} {v : Value} {zs : List Int} (h : OwnsI w base v zs) : ∃ a m c, v = .slice a m c := by
  obtain ⟨a, cap, hv⟩ := OwnsI.form_any h
  exact ⟨a, _, cap, hv⟩
end Go.Proofs.Ytdeofaimgldklaa
