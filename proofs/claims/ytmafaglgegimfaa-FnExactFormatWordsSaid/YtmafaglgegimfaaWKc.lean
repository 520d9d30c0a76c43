/- Words, the texts: l2Letter, l2Char of the model. -/
import Derived.Test.YtmafaglgegimfaaMF
import Derived.Test.YtmafaglgegimfaaWS1
import Derived.Test.YtmafaglgegimfaaA
import Derived.Laws.Concat
namespace Go.Proofs.Ytmafaglgegimfaa
open Go.RowKit
set_option linter.unusedVariables false

theorem l2Letter_yes (w : World) (x : Int) (h : lettB x = true) : Calls Try.prog 94 #[.int .i64 x] w fun e w' => e = .returned (.bool true) ∧ w = w' := by
  obtain ⟨h0, h1, h2⟩ := lettB_iff.1 h
  have g0 : (x != 0) = true := by rw [bne_iff_ne]; exact h0
  clear h h0
  go_enter Try.func94, Try.ntmps94
  go_wp2_with fail
  refine (l1In_yes x (-3) 3 _ h1 h2).mono ?_
  rintro e w' ⟨rfl, rfl⟩
  go_wp2
  go_ret
  exact ⟨rfl, rfl⟩
theorem l2Letter_no (w : World) (x : Int) (h : lettB x = false) : Calls Try.prog 94 #[.int .i64 x] w fun e w' => e = .returned (.bool false) ∧ w = w' := by
  have h := lettB_no.1 h
  by_cases h0 : x = 0
  · have g0 : (x != 0) = false := by rw [bne_eq_false_iff_eq]; exact h0
    clear h h0
    go_enter Try.func94, Try.ntmps94
    go_wp2
    go_ret
    exact ⟨rfl, rfl⟩
  · have g0 : (x != 0) = true := by rw [bne_iff_ne]; exact h0
    have h1 : x < -3 ∨ 3 < x := by omega
    clear h h0
    have hcall := l1In_no x (-3) 3 w h1
    replace h1 := hidI h1
    go_enter Try.func94, Try.ntmps94
    go_wp2_with fail
    refine hcall.mono ?_
    rintro e w' ⟨rfl, rfl⟩
    go_wp2
    go_ret
    exact ⟨rfl, rfl⟩
/-- What l2Char leaves. -/
def CharRet (w : World) (x : Int) (e : Ending) (w' : World) : Prop := e = .returned (.string ⟨#[chr x]⟩) ∧ Below w.heap.size w w'
theorem ret_s {a b : ByteArray} (h : a = b) : Ending.returned (.string a) = .returned (.string b) := by rw [h]
set_option maxHeartbeats 800000 in
theorem l2Char_any (w : World) (x : Int) (h : lettB x = true) : Calls Try.prog 95 #[.int .i64 x] w (CharRet w x) := by
  obtain ⟨h0, h1, h2⟩ := lettB_iff.1 h
  have hx : x = -3 ∨ x = -2 ∨ x = -1 ∨ x = 1 ∨ x = 2 ∨ x = 3 := by omega
  clear h h0 h1 h2
  rcases hx with rfl | rfl | rfl | rfl | rfl | rfl
  all_goals
    go_enter Try.func95, Try.ntmps95
    go_wp2
    go_ret
    exact ⟨rfl, (Below.refl _ _).alloc (Nat.le_refl _) _⟩
/-- What a function that hands back one string leaves. -/
def StrRet (w : World) (bs : List UInt8) (e : Ending) (w' : World) : Prop := e = .returned (.string ⟨bs.toArray⟩) ∧ Below w.heap.size w w'
end Go.Proofs.Ytmafaglgegimfaa
