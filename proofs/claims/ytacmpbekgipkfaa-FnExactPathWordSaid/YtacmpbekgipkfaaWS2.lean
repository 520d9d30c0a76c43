/- Words, the model: MultiplyWords, CommutatorOf, ConjugateWord, PowerWord, EqualWords. -/
import Derived.Test.YtacmpbekgipkfaaQD
namespace Go.Proofs.Ytacmpbekgipkfaa
open Go.RowKit
set_option linter.unusedVariables false

set_option maxHeartbeats 800000 in
theorem specMul (w : World) (v1 v2 : Value) (z1 z2 : List Int) (h1 : ReadI w.heap.size w v1 z1) (h2 : ReadI w.heap.size w v2 z2) (hl1 : z1.length ≤ 40000000) (hl2 : z2.length ≤ 40000000) :
    Calls Try.prog 46 #[v1, v2] w (IntsRet w (mulL z1 z2)) := by
  have hr1 := hidI h1
  have hr2 := hidI h2
  clear h1 h2
  have hb0 : Below w.heap.size w (w.alloc (.cells #[] 3)) := (Below.refl _ _).alloc (Nat.le_refl _) _
  have hlit := hidI (OwnsI.lit w)
  have hs0 : ([] : List Int).length + z1.length ≤ 1000000000 := by simp; omega
  go_enter Try.func46, Try.ntmps46
  go_wp2_with (at_builtin; go_must (refine wpList_pushAllI rfl (.tmp 5) (.tmp 6) rfl w.heap.size _ _ [] z1 w.heap.size rfl rfl (by exact hlit.out) (by exact hr1.out.below hb0) hs0 hb0.size ?_))
  intro v3 w3 hown3 hb3'
  have hb3 := hb0.trans hb3'
  have hown3' : OwnsI w3 w.heap.size v3 z1 := hown3
  have hs3 : z1.length + z2.length ≤ 1000000000 := by omega
  replace hown3' := hidI hown3'
  clear hown3 hb3' hlit
  go_wp2_with (at_builtin; go_must (refine wpList_pushAllI rfl _ _ rfl w.heap.size _ _ z1 z2 w.heap.size rfl rfl (by exact hown3'.out) (by exact hr2.out.below hb3) hs3 hb3.size ?_))
  intro v4 w4 hown4 hb4'
  have hb4 := hb3.trans hb4'
  have hz : (z1 ++ z2).length ≤ 100000000 := by rw [List.length_append]; omega
  have hrd : ReadI w4.heap.size w4 v4 (z1 ++ z2) := (hown4.row (by omega)).read
  have hs4 := hb4.size
  clear hown4 hb4' hown3' hb3 hb0
  go_wp2_with fail
  refine (specRed w4 v4 (z1 ++ z2) hrd hz).mono ?_
  rintro e w5 ⟨v5, rfl, hrow, hb5'⟩
  have hb5 := hb4.trans (hb5'.mono hs4)
  have hrow2 := hidI (hrow.wide hs4 (Nat.le_refl _))
  clear hrow hb5' hrd
  go_wp2_with fail
  go_ret
  exact ⟨v5, rfl, hrow2.out, hb5⟩

/-- A row of the call's own can be read as long as only later blocks turn. -/
theorem RowI.later {w w' : World} {lo hi : Nat} {v : Value} {zs : List Int} (h : RowI w lo hi v zs) (hb : Below hi w w') (hs : hi ≤ w'.heap.size) : ReadI w'.heap.size w' v zs :=
  ((h.read).below hb).mono hs
end Go.Proofs.Ytacmpbekgipkfaa
