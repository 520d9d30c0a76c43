/- Trees, the contracts under the names that the laws ask for: edges as an answer. -/
import Derived.Test.YtacmpbekgipkfaaEC
import Derived.Test.YtacmpbekgipkfaaED
import Derived.Test.YtacmpbekgipkfaaEH
import Derived.Test.YtacmpbekgipkfaaEI
namespace Go.Proofs.Ytacmpbekgipkfaa
open Go.RowKit
set_option linter.unusedVariables false

def LwEdgesV (w : World) (es : List Ed) (e : Ending) (w' : World) : Prop := ∃ v, e = .returned v ∧ RowS 44 3 w' w.heap.size w'.heap.size v es.length (flatE es) ∧ Below w.heap.size w w'
theorem lwEdges_v {w : World} {es : List Ed} {e : Ending} {w' : World} (h : LwEdges w es e w') : LwEdgesV w es e w' := by
  obtain ⟨a, c, h1, h2, h3⟩ := h
  exact ⟨_, h1, h2, h3⟩
theorem specTreeV (w : World) (r s : Int) (v : Value) (es : List Ed) (h : ReadE w.heap.size w v es) (hs : -9223372036854775808 ≤ s ∧ s ≤ 9223372036854775807) (hl : es.length ≤ 10000000) :
    Calls Try.prog 11 #[.agg #[.int .i64 r, .int .i64 s, v]] w (LwEdgesV w (trE r s es)) := (specTreeE w r s v es h hs hl).mono fun _ _ q => lwEdges_v q
theorem progTreeV (w : World) (r s : Int) (v : Value) (es : List Ed) (h : ReadE w.heap.size w v es) (hl : es.length ≤ 10000000) :
    Calls Try.prog 13 #[.agg #[.int .i64 r, .int .i64 s, v]] w (LwEdgesV w (trE r s es)) := (progTree w r s v es h hl).mono fun _ _ q => lwEdges_v q
theorem specExtraV (w : World) (r s : Int) (v : Value) (es : List Ed) (h : ReadE w.heap.size w v es) (hs : -9223372036854775808 ≤ s ∧ s ≤ 9223372036854775807) (hl : es.length ≤ 10000000) :
    Calls Try.prog 19 #[.agg #[.int .i64 r, .int .i64 s, v]] w (LwEdgesV w (exE r s es)) := (specExtra w r s v es h hs hl).mono fun _ _ q => lwEdges_v q
theorem progExtraV (w : World) (r s : Int) (v : Value) (es : List Ed) (h : ReadE w.heap.size w v es) (hl : es.length ≤ 10000000) :
    Calls Try.prog 20 #[.agg #[.int .i64 r, .int .i64 s, v]] w (LwEdgesV w (exE r s es)) := (progExtra w r s v es h hl).mono fun _ _ q => lwEdges_v q
end Go.Proofs.Ytacmpbekgipkfaa
