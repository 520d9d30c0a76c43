/- Graphs, the model: l4Put. -/
import Derived.Test.YtkmhncbakfnfeaaDoorGS9
namespace Go.Proofs.YtkmhncbakfnfeaaDoor
open Go.RowKit
set_option linter.unusedVariables false
set_option linter.unusedSimpArgs false

/-- e put into an ascending list of edges. -/
def putE (e : Ed) : List Ed → List Ed
  | [] => [e]
  | y :: ys => if 0 < cmpE e y then y :: putE e ys else if cmpE e y = 0 then y :: ys else e :: y :: ys
theorem putE_length (e : Ed) (l : List Ed) : (putE e l).length ≤ l.length + 1 := by
  induction l with
  | nil => simp [putE]
  | cons y ys ih =>
    unfold putE
    split
    · simp only [List.length_cons]; omega
    · split <;> simp
theorem putE_gt {e y : Ed} (ys : List Ed) (h : 0 < cmpE e y) : putE e (y :: ys) = y :: putE e ys := by rw [putE, if_pos h]
theorem putE_eq {e y : Ed} (ys : List Ed) (h : cmpE e y = 0) : putE e (y :: ys) = y :: ys := by rw [putE, if_neg (by omega), if_pos h]
theorem putE_lt {e y : Ed} (ys : List Ed) (h : cmpE e y < 0) : putE e (y :: ys) = e :: y :: ys := by rw [putE, if_neg (by omega), if_neg (by omega)]
theorem drop_oneE {l : List Ed} {k : Nat} (h : k < l.length) : l.drop k = l.getD k e0 :: l.drop (k + 1) := by
  rw [List.drop_eq_getElem_cons h, List.getD_eq_getElem?_getD, List.getElem?_eq_getElem h]; rfl
def LwEdges (w : World) (es : List Ed) (e : Ending) (w' : World) : Prop :=
  ∃ a cap, e = .returned (.slice a es.length cap) ∧ RowS 41 3 w' w.heap.size w'.heap.size (.slice a es.length cap) es.length (flatE es) ∧ Below w.heap.size w w'
theorem lwEdges_owns {w w' : World} {base : Nat} {v : Value} {es : List Ed} (h : OwnsE w' base v es) (hb : Below w.heap.size w w') (hB : w.heap.size ≤ base) (hl : es.length ≤ 1000000000000) : LwEdges w es (.returned v) w' := by
  obtain ⟨a, m, c, rfl⟩ := h.form3
  have hrow := h.row hl
  obtain ⟨rfl, _⟩ := hrow.cap
  exact ⟨a, c, rfl, hrow.wide hB (Nat.le_refl _), hb⟩
end Go.Proofs.YtkmhncbakfnfeaaDoor
