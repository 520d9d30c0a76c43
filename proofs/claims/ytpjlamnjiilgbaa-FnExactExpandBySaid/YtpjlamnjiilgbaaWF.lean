/- Words, the program: InvertWord, ReduceLetters, MultiplyWords, CommutatorOf, ConjugateWord. -/
import Derived.Test.YtpjlamnjiilgbaaWE
namespace Go.Proofs.Ytpjlamnjiilgbaa
open Go.RowKit
set_option linter.unusedVariables false

theorem map_getD_ng (zs : List Int) (k : Nat) (h : k < zs.length) : (zs.map ng).getD k 0 = ng (zs.getD k 0) := by
  simp [List.getD_eq_getElem?_getD, h]
set_option maxHeartbeats 1600000 in
theorem invert_any (w : World) (v : Value) (zs : List Int) (h : ReadI w.heap.size w v zs) (hl : zs.length ≤ 1000000000) :
    Calls Try.prog 19 #[v] w (IntsRet w (invL zs)) := by
  have hread := h
  obtain ⟨_, a, cap, rfl, hq1, hq2⟩ := h
  clear hq1 hq2
  obtain ⟨n, hn⟩ : ∃ n, n = zs.length := ⟨_, rfl⟩
  obtain ⟨i0, hi, hz0, hz1, hz2⟩ := info_parts infoInt
  rw [← hn] at hl hread ⊢
  replace hn := hidI hn
  replace hread := hidI hread
  go_enter Try.func19, Try.ntmps19
  go_wp2_with (at_make; go_must (refine wpList_make_full _ rfl _ _ 23 rfl w.heap.size 3 i0 (.int .i64 0) 1 Try.underlying23 hi hz0 hz1 .i64 .i64 _ _ n rfl rfl rfl rfl ?c1 ?c2 ?c3 ?_))
  case c1 => rw [hz2]; omega
  case c2 => unfold maxLen; omega
  case c3 => exact Nat.le_refl _
  intro w1 hown hg
  rw [made_ints] at hown
  have hb := (Below.refl w.heap.size w).grown hg (Nat.le_refl _) (by intro k hk; cases hk)
  clear hg hi hz0 hz1 hz2
  replace hown := hidI hown
  have hml : (zs.map ng).length = n := by rw [List.length_map]; exact hn.out.symm
  replace hml := hidI hml
  go_wp2
  go_loopg [11] n (fun g i wr => ∃ k : Nat, k + g = n ∧ i = .int .i64 k ∧ wr.ownsRow w.heap.size 3 1 (.slice (some ⟨w.heap.size, 0, none⟩) n n) n ((padR (zs.map ng) k).map iv) ∧ Below w.heap.size w wr)
  case atStart => exact ⟨0, by omega, rfl, by rw [padR_zero, hml.out]; exact hown.out, hb⟩
  case round =>
    clear hown hb
    obtain ⟨k, hk, rfl, hown, hb⟩ := hrel
    by_cases hlt : k < n
    · obtain ⟨b, off, rfl, hB, hcell⟩ := (hread.out.below hb).at_ k (by have := hn.out; omega)
      obtain ⟨z, hz⟩ : ∃ z, z = zs.getD k 0 := ⟨_, rfl⟩
      obtain ⟨i, hi⟩ : ∃ i, n = k + 1 + i := ⟨n - (k + 1), by omega⟩
      rw [← hz] at hcell
      have hold : ∃ v, wr.cell? ⟨w.heap.size, i, none⟩ = some v := by
        rw [hown.cellAt _ (by omega)]
        exact ⟨_, List.getElem?_eq_getElem (by rw [List.length_map, padR_length _ _ (by have := hml.out; omega)]; have := hml.out; omega)⟩
      obtain ⟨v, hold⟩ := hold
      have hfr := hown.frozenAt i
      have hst := (hown.stored i (iv (ng z))).1
      have hpi : (zs.map ng).length - 1 - k = i := by have := hml.out; omega
      have hstep := padR_step (zs.map ng) k (by have := hml.out; omega)
      rw [map_getD_ng zs k (by have := hn.out; omega), ← hz, hpi] at hstep
      rw [← List.map_set, hstep] at hst
      have hidx : (n : Int) - 1 - (k : Int) = (i : Int) := by omega
      have hin : (i : Int) < (n : Int) := by omega
      have hlt2 : (k : Int) < (n : Int) := by omega
      have hbb := hb.setCell (p := ⟨w.heap.size, i, none⟩) (Nat.le_refl _) (iv (ng z))
      replace hst := hidI hst
      replace hz := hidI hz
      replace hown := hidI hown
      replace hi := hidI hi
      replace hk := hidI hk
      clear hpi hstep
      go_wp2
      go_roundg (n - (k + 1))
      case rel => exact ⟨k + 1, by have := hk.out; omega, by go_num, hst.out, hbb⟩
      case measure => have := hk.out; omega
    · obtain rfl : k = n := by omega
      have hrow : RowI wr w.heap.size wr.heap.size (.slice (some ⟨w.heap.size, 0, none⟩) k k) (invL zs) := by
        have hnl := hml.out
        refine RowI.of_owns ?_ (by rw [invL_length]; have := hn.out; omega)
        rw [invL_length, ← hn.out]
        have := hown
        have e : padR (zs.map ng) k = invL zs := by
          have := padR_full (zs.map ng)
          rw [hnl] at this
          exact this
        rw [e] at this
        exact this
      replace hrow := hidI hrow
      replace hown := hidI hown
      replace hk := hidI hk
      go_wp2
      go_ret
      exact ⟨_, rfl, hrow.out, hb⟩
/-- The product of the factors that lie in a block of the call's own. -/
theorem readLL_lit {w : World} {vs : List Value} {zss : List (List Int)} (C : Array Value) (hC : C = vs.toArray) (hl : vs.length = zss.length) (hlen : zss.length ≤ 1000) (hr : ∀ i, i < zss.length → ReadI w.heap.size w (vs.getD i undef) (zss.getD i [])) :
    ReadLL (w.heap.size + 1) (w.alloc (.cells C 23)) (.slice (some ⟨w.heap.size, 0, none⟩) zss.length zss.length) zss := by
  subst hC
  refine ⟨by omega, _, _, rfl, .inr ⟨_, _, rfl, by omega, fun i hi => ⟨vs.getD i undef, ?_, ?_⟩⟩⟩
  · rw [World.cell?, heap_alloc_new]
    simp [List.getD_eq_getElem?_getD, hl, hi]
  · exact ((hr i hi).below ((Below.refl _ _).alloc (Nat.le_refl _) _)).mono (by omega)
theorem IntsRet.over {w w1 : World} {zs : List Int} {e : Ending} {w' : World} (h : IntsRet w1 zs e w') (hb : Below w.heap.size w w1) : IntsRet w zs e w' := by
  obtain ⟨v, rfl, hrow, hb1⟩ := h
  exact ⟨v, rfl, hrow.wide hb.size (Nat.le_refl _), hb.trans (hb1.mono hb.size)⟩
theorem ReadI.form {B : Nat} {w : World} {v : Value} {zs : List Int} (h : ReadI B w v zs) : ∃ a n cap, v = .slice a n cap := by
  obtain ⟨_, a, cap, hv, _⟩ := h
  exact ⟨a, _, cap, hv⟩
end Go.Proofs.Ytpjlamnjiilgbaa
