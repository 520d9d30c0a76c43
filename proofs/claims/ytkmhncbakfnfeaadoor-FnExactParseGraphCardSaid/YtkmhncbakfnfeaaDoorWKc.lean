/- Words, the texts: l2Letter, l2Char of the model. -/
import Derived.Test.YtkmhncbakfnfeaaDoorMF
import Derived.Test.YtkmhncbakfnfeaaDoorWS1
import Derived.Test.YtkmhncbakfnfeaaDoorA
import Derived.Laws.Concat
namespace Go.Proofs.YtkmhncbakfnfeaaDoor
open Go.RowKit
set_option linter.unusedVariables false

/-- What l2Char leaves. -/
def CharRet (w : World) (x : Int) (e : Ending) (w' : World) : Prop := e = .returned (.string ⟨#[chr x]⟩) ∧ Below w.heap.size w w'
theorem ret_s {a b : ByteArray} (h : a = b) : Ending.returned (.string a) = .returned (.string b) := by rw [h]
set_option maxHeartbeats 800000 in
theorem l2Char_any (w : World) (x : Int) (h : lettB x = true) : Calls Tryd.prog 17 #[.int .i64 x] w (CharRet w x) := by
  obtain ⟨h0, h1, h2⟩ := lettB_iff.1 h
  have hx : x = -3 ∨ x = -2 ∨ x = -1 ∨ x = 1 ∨ x = 2 ∨ x = 3 := by omega
  clear h h0 h1 h2
  rcases hx with rfl | rfl | rfl | rfl | rfl | rfl
  all_goals
    go_enter Tryd.func17, Tryd.ntmps17
    go_wp2
    go_ret
    exact ⟨rfl, (Below.refl _ _).alloc (Nat.le_refl _) _⟩
/-- What a function that hands back one string leaves. -/
def StrRet (w : World) (bs : List UInt8) (e : Ending) (w' : World) : Prop := e = .returned (.string ⟨bs.toArray⟩) ∧ Below w.heap.size w w'
end Go.Proofs.YtkmhncbakfnfeaaDoor
