/- Lists of words: the contracts as the laws' walks ask for them. -/
import Derived.Test.YtmafaglgegimfaaSC
namespace Go.Proofs.Ytmafaglgegimfaa
open Go.RowKit
set_option linter.unusedVariables false

theorem sTotal (w : World) (v : Value) (zss : List (List Int)) (h : ReadSS w.heap.size w v zss) (hs : totL zss ≤ 1000000000) : Calls Try.prog 34 #[v] w (LwInt w (totL zss : Nat)) :=
  (specTotal w _ v zss h hs).mono fun _ _ h => LwInt.of_drawn h
theorem iTotal (w : World) (v : Value) (zss : List (List Int)) (h : ReadSS w.heap.size w v zss) (hs : totL zss ≤ 1000000000) : Calls Try.prog 35 #[v] w (LwInt w (totL zss : Nat)) :=
  (progTotal w _ v zss h hs).mono fun _ _ h => LwInt.of_drawn h
theorem sEqSS (w : World) (v1 v2 : Value) (z1 z2 : List (List Int)) (h1 : ReadSS w.heap.size w v1 z1) (h2 : ReadSS w.heap.size w v2 z2) : Calls Try.prog 38 #[v1, v2] w (LwBool w (decide (z1 = z2))) :=
  (specEqSS w _ v1 v2 z1 z2 h1 h2).mono fun _ _ h => LwBool.of_drawn h
theorem iEqSS (w : World) (v1 v2 : Value) (z1 z2 : List (List Int)) (h1 : ReadSS w.heap.size w v1 z1) (h2 : ReadSS w.heap.size w v2 z2) : Calls Try.prog 39 #[v1, v2] w (LwBool w (decide (z1 = z2))) :=
  (progEqSS w _ v1 v2 z1 z2 h1 h2).mono fun _ _ h => LwBool.of_drawn h
theorem sAreW (w : World) (v : Value) (zss : List (List Int)) (r : Int) (h : ReadSS w.heap.size w v zss) (hs : totL zss ≤ 1000000000) : Calls Try.prog 21 #[.int .i64 r, v] w (LwBool w (arew r zss)) :=
  (specAreW w _ v zss r h hs).mono fun _ _ h => LwBool.of_drawn h
end Go.Proofs.Ytmafaglgegimfaa
