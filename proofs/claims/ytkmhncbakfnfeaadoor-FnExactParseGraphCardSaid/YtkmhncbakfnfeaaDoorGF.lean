/- Graphs, the model: FormatGraph (door seat). -/
import Derived.Test.YtkmhncbakfnfeaaDoorGS2
import Derived.Test.YtkmhncbakfnfeaaDoorFmtI
import Derived.Test.YtkmhncbakfnfeaaDoorWKc
namespace Go.Proofs.YtkmhncbakfnfeaaDoor
open Go.RowKit
set_option linter.unusedVariables false
set_option maxRecDepth 100000
set_option linter.unusedSimpArgs false

/-- The text of an edge, of edges, of a graph. -/
def fmtE (e : Ed) : List UInt8 := 32 :: (Lib.itoa e.1 ++ chr e.2.1 :: Lib.itoa e.2.2)
def fmtEs : List Ed → List UInt8
  | [] => []
  | e :: es => fmtE e ++ fmtEs es
def fmtHead (r s : Int) : List UInt8 := Lib.itoa r ++ 32 :: Lib.itoa s
def fmtG (r s : Int) (es : List Ed) : List UInt8 := fmtHead r s ++ fmtEs es
def fmtGr (r s : Int) (es : List Ed) : List UInt8 := if isGr r s es = true then fmtG r s es else []
theorem fmtEs_append (a b : List Ed) : fmtEs (a ++ b) = fmtEs a ++ fmtEs b := by
  induction a with
  | nil => rfl
  | cons e a ih => simp only [List.cons_append, fmtEs, ih, List.append_assoc]
theorem itoa_length {n : Int} (h : -9223372036854775808 ≤ n ∧ n ≤ 9223372036854775807) : (Lib.itoa n).length ≤ 1048576 := by
  have := fmtB_size h
  simpa [fmtB, ByteArray.size] using this
theorem fmtEs_length {es : List Ed} (h : InE es) : (fmtEs es).length ≤ es.length * 2097154 := by
  induction es with
  | nil => simp [fmtEs]
  | cons e es ih =>
    have := ih (fun x hx => h x (List.mem_cons_of_mem _ hx))
    have h0 := h e List.mem_cons_self
    have h1 := itoa_length h0.1
    have h2 := itoa_length h0.2.2
    simp only [fmtEs, fmtE, List.length_append, List.length_cons]
    omega
theorem fmtEs_next {es : List Ed} {k : Nat} (h : k < es.length) : fmtEs (es.take (k + 1)) = fmtEs (es.take k) ++ fmtE (es.getD k e0) := by
  have : es.take (k + 1) = es.take k ++ [es.getD k e0] := by
    rw [List.take_add_one, List.getElem?_eq_getElem h, List.getD_eq_getElem?_getD, List.getElem?_eq_getElem h]; rfl
  rw [this, fmtEs_append]; simp [fmtEs]
theorem InE.take {es : List Ed} (h : InE es) (k : Nat) : InE (es.take k) := fun e he => h e (List.mem_of_mem_take he)
end Go.Proofs.YtkmhncbakfnfeaaDoor
