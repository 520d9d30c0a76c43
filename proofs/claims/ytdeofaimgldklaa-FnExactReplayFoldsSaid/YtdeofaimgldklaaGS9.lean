/- Graphs, the model: StepsFrom. -/
import Derived.Test.YtdeofaimgldklaaGS8
namespace Go.Proofs.Ytdeofaimgldklaa
open Go.RowKit
set_option linter.unusedVariables false
set_option linter.unusedSimpArgs false

/-- One edge's share in StepsFrom. -/
def stepE (v x : Int) (acc : List Int) (e : Ed) : List Int :=
  if 0 < x ∧ e.2.1 = x ∧ e.1 = v then addZ e.2.2 acc else if x < 0 ∧ e.2.1 = wrap64 (-x) ∧ e.2.2 = v then addZ e.1 acc else acc
def stepsE (v x : Int) (es : List Ed) : List Int := es.foldl (stepE v x) []
theorem stepE_length (v x : Int) (acc : List Int) (e : Ed) : (stepE v x acc e).length ≤ acc.length + 1 := by
  unfold stepE
  split
  · exact addZ_length _ _
  · split
    · exact addZ_length _ _
    · omega
theorem foldE_length (v x : Int) (es : List Ed) : ∀ acc, (es.foldl (stepE v x) acc).length ≤ acc.length + es.length := by
  induction es with
  | nil => intro acc; simp
  | cons e es ih =>
    intro acc
    have := ih (stepE v x acc e)
    have h2 := stepE_length v x acc e
    simp only [List.foldl_cons, List.length_cons]
    omega
theorem stepsE_length (v x : Int) (es : List Ed) : (stepsE v x es).length ≤ es.length := by
  have := foldE_length v x es []
  simpa [stepsE] using this
theorem stepsE_next {v x : Int} {es : List Ed} {k : Nat} (h : k < es.length) : stepsE v x (es.take (k + 1)) = stepE v x (stepsE v x (es.take k)) (es.getD k e0) := by
  unfold stepsE
  rw [take_one h, List.foldl_append]; rfl
end Go.Proofs.Ytdeofaimgldklaa
