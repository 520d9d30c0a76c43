/- Words, the program: InvertWord, ReduceLetters, MultiplyWords, CommutatorOf, ConjugateWord. -/
import Derived.Test.YtjnhhhnehkmfmaaGreatWE
namespace Go.Proofs.YtjnhhhnehkmfmaaGreat
open Go.RowKit
set_option linter.unusedVariables false

theorem map_getD_ng (zs : List Int) (k : Nat) (h : k < zs.length) : (zs.map ng).getD k 0 = ng (zs.getD k 0) := by
  simp [List.getD_eq_getElem?_getD, h]
/-- The product of the factors that lie in a block of the call's own. -/
theorem readLL_lit {w : World} {vs : List Value} {zss : List (List Int)} (C : Array Value) (hC : C = vs.toArray) (hl : vs.length = zss.length) (hlen : zss.length ≤ 1000) (hr : ∀ i, i < zss.length → ReadI w.heap.size w (vs.getD i undef) (zss.getD i [])) :
    ReadLL (w.heap.size + 1) (w.alloc (.cells C 42)) (.slice (some ⟨w.heap.size, 0, none⟩) zss.length zss.length) zss := by
  subst hC
  refine ⟨by omega, _, _, rfl, .inr ⟨_, _, rfl, by omega, fun i hi => ⟨vs.getD i undef, ?_, ?_⟩⟩⟩
  · rw [World.cell?, heap_alloc_new]
    simp [List.getD_eq_getElem?_getD, hl, hi]
  · exact ((hr i hi).below ((Below.refl _ _).alloc (Nat.le_refl _) _)).mono (by omega)
theorem IntsRet.over {w w1 : World} {zs : List Int} {e : Ending} {w' : World} (h : IntsRet w1 zs e w') (hb : Below w.heap.size w w1) : IntsRet w zs e w' := by
  obtain ⟨v, rfl, hrow, hb1⟩ := h
  exact ⟨v, rfl, hrow.wide hb.size (Nat.le_refl _), hb.trans (hb1.mono hb.size)⟩
theorem ReadI.form {B : Nat} {w : World} {v : Value} {zs : List Int} (h : ReadI B w v zs) : ∃ a n cap, v = .slice a n cap := by
  obtain ⟨_, a, cap, hv, _⟩ := h
  exact ⟨a, _, cap, hv⟩
set_option maxHeartbeats 400000 in
theorem reduce_any (w : World) (v : Value) (zs : List Int) (h : ReadI w.heap.size w v zs) (hin : InR zs) (hl : zs.length ≤ 1000000000) :
    Calls Tryz.prog 57 #[v] w (IntsRet w (redL zs)) := by
  obtain ⟨a, n, cap, hv⟩ := h.form
  rw [hv]
  rw [hv] at h
  clear hv
  have hb := (Below.refl w.heap.size w).alloc (Nat.le_refl _) (.cells #[.slice a n cap] 42)
  have hll : ReadLL (w.heap.size + 1) (w.alloc (.cells #[.slice a n cap] 42)) (.slice (some ⟨w.heap.size, 0, none⟩) 1 1) [zs] := readLL_lit (vs := [.slice a n cap]) (zss := [zs]) _ rfl rfl (by simp) (by intro i hi; simp at hi; subst hi; exact h)
  have e : [zs].flatten = zs := by simp
  have hcall := multiplyAll_any (w.alloc (.cells #[.slice a n cap] 42)) _ [zs] (by simpa using hll) (by rw [e]; exact hin) (by rw [e]; exact hl)
  rw [e] at hcall
  replace e := hidI e
  clear hll
  go_enter Tryz.func57, Tryz.ntmps57
  go_wp2_with fail
  refine hcall.mono ?_
  rintro e1 w1 hr1
  have hr := hr1.over hb
  clear hr1 hcall
  obtain ⟨v1, rfl, hrow, hb1⟩ := hr
  replace hrow := hidI hrow
  go_wp2
  go_ret
  exact ⟨_, rfl, hrow.out, hb1⟩
end Go.Proofs.YtjnhhhnehkmfmaaGreat
