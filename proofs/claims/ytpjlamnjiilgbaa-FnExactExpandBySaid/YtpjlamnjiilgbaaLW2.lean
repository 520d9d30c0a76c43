/- What functions of slices of ints leave, for the laws' walks (tools/lawgen.py). -/
import Derived.Test.YtpjlamnjiilgbaaLW
namespace Go.Proofs.Ytpjlamnjiilgbaa
open Go.RowKit
set_option linter.unusedVariables false

/-- Two slices of ints in blocks apart. -/
def LwInts2 (w : World) (z1 z2 : List Int) (e : Ending) (w' : World) : Prop :=
  ∃ v1 v2 l1 h1 l2 h2, e = .returned (.tuple #[v1, v2]) ∧ RowI w' l1 h1 v1 z1 ∧ RowI w' l2 h2 v2 z2 ∧ w.heap.size ≤ l1 ∧ h1 ≤ w'.heap.size ∧ w.heap.size ≤ l2 ∧ h2 ≤ w'.heap.size ∧ (h1 ≤ l2 ∨ h2 ≤ l1) ∧ Below w.heap.size w w'
/-- Two slices of ints that can be read. -/
def LwRead2 (w : World) (z1 z2 : List Int) (e : Ending) (w' : World) : Prop :=
  ∃ v1 v2, e = .returned (.tuple #[v1, v2]) ∧ RowI w' w.heap.size w'.heap.size v1 z1 ∧ RowI w' w.heap.size w'.heap.size v2 z2 ∧ Below w.heap.size w w'
def LwIntsInt (w : World) (zs : List Int) (n : Int) (e : Ending) (w' : World) : Prop :=
  ∃ v, e = .returned (.tuple #[v, .int .i64 n]) ∧ RowI w' w.heap.size w'.heap.size v zs ∧ Below w.heap.size w w'
def LwIntsBool (w : World) (zs : List Int) (b : Bool) (e : Ending) (w' : World) : Prop :=
  ∃ v, e = .returned (.tuple #[v, .bool b]) ∧ RowI w' w.heap.size w'.heap.size v zs ∧ Below w.heap.size w w'
def LwInts (w : World) (zs : List Int) (e : Ending) (w' : World) : Prop :=
  ∃ v, e = .returned v ∧ RowI w' w.heap.size w'.heap.size v zs ∧ Below w.heap.size w w'
def LwInt (w : World) (n : Int) (e : Ending) (w' : World) : Prop := e = .returned (.int .i64 n) ∧ Below w.heap.size w w'
def LwBool (w : World) (b : Bool) (e : Ending) (w' : World) : Prop := e = .returned (.bool b) ∧ Below w.heap.size w w'
theorem LwBool.of_drawn {w w' : World} {b : Bool} {e : Ending} (h : BoolRet w b e w') : LwBool w b e w' := by
  obtain ⟨he, n, hw⟩ := h
  exact ⟨he, by rw [hw]; exact below_dn (Below.refl _ _) n⟩
end Go.Proofs.Ytpjlamnjiilgbaa
