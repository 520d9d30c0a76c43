/- Graphs: FormatGraph's contracts as the law's walk asks for them. -/
import Derived.Test.YtkmhncbakfnfeaaDoorGPF
namespace Go.Proofs.YtkmhncbakfnfeaaDoor
open Go.RowKit
set_option linter.unusedVariables false

def LwStr (w : World) (s : ByteArray) (e : Ending) (w' : World) : Prop := e = .returned (.string s) ∧ Below w.heap.size w w'
def fmtS (r s : Int) (es : List Ed) : ByteArray := ⟨(fmtGr r s es).toArray⟩
theorem sFmtG (w : World) (r s : Int) (v : Value) (es : List Ed) (h : ReadE w.heap.size w v es) (hr : -9223372036854775808 ≤ r ∧ r ≤ 9223372036854775807) (hs : -9223372036854775808 ≤ s ∧ s ≤ 9223372036854775807) (hie : InE es) (hl : es.length ≤ 1000000000) :
    Calls Tryd.prog 6 #[.agg #[.int .i64 r, .int .i64 s, v]] w (LwStr w (fmtS r s es)) := specFmtG w r s v es h hr hs hie hl
theorem iFmtG (w : World) (r s : Int) (v : Value) (es : List Ed) (h : ReadE w.heap.size w v es) (hl : es.length ≤ 1000000000) (htab : Tab w) :
    Calls Tryd.prog 8 #[.agg #[.int .i64 r, .int .i64 s, v]] w (LwStr w (fmtS r s es)) := progFmtG w r s v es h hl htab
end Go.Proofs.YtkmhncbakfnfeaaDoor
