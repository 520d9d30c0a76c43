/- Words, the program: the letters of a linked list. -/
import Derived.Test.YtpjlamnjiilgbaaWC
import Derived.Deep.LoopGhost
import Derived.RegionTactic
import Derived.BigRegion
namespace Go.Proofs.Ytpjlamnjiilgbaa
open Go.RowKit
set_option linter.unusedVariables false

/-- What has been filled after j links of the stack s. -/
def padR (s : List Int) (j : Nat) : List Int := List.replicate (s.length - j) 0 ++ (s.take j).reverse
theorem padR_length (s : List Int) (j : Nat) (h : j ≤ s.length) : (padR s j).length = s.length := by simp [padR]; omega
theorem padR_zero (s : List Int) : padR s 0 = List.replicate s.length 0 := by simp [padR]
theorem padR_full (s : List Int) : padR s s.length = s.reverse := by simp [padR]
theorem padR_step (s : List Int) (j : Nat) (h : j < s.length) : (padR s j).set (s.length - 1 - j) (s.getD j 0) = padR s (j + 1) := by
  have e : s.length - j = (s.length - (j + 1)) + 1 := by omega
  unfold padR
  rw [List.set_append_left _ _ (by rw [List.length_replicate]; omega), List.take_succ_eq_append_getElem h, List.reverse_append, e, List.replicate_succ', List.set_append_right _ _ (by rw [List.length_replicate]; omega)]
  have e2 : s.length - 1 - j - (s.length - (j + 1)) = 0 := by omega
  rw [List.length_replicate, e2]
  simp [List.getD_eq_getElem?_getD, h]
theorem Chain.next {w : World} {lo hi : Nat} {s : List Int} {v : Value} {j : Nat} (h : Chain w lo hi (s.drop j) v) (hj : j < s.length) :
    ∃ b p, v = .pointer (some ⟨b, 0, none⟩) ∧ lo ≤ b ∧ b < hi ∧ w.cell? ⟨b, 0, none⟩ = some (.int .i64 (s.getD j 0)) ∧ w.cell? ⟨b, 1, none⟩ = some (.int .i64 ((s.length : Int) - j)) ∧ w.cell? ⟨b, 2, none⟩ = some p ∧ Chain w lo hi (s.drop (j + 1)) p := by
  rw [List.drop_eq_getElem_cons hj] at h
  obtain ⟨b, p, hv, h1, h2, h3, h4⟩ := h
  have e : ((s.drop (j + 1)).length : Int) + 1 = (s.length : Int) - j := by rw [List.length_drop]; omega
  refine ⟨b, p, hv, h1, h2, ?_, ?_, ?_, h4⟩
  · simp [World.cell?, h3, List.getD_eq_getElem?_getD, hj]
  · rw [← e]; simp [World.cell?, h3]
  · simp [World.cell?, h3]
theorem Chain.end_ {w : World} {lo hi : Nat} {s : List Int} {v : Value} {j : Nat} (h : Chain w lo hi (s.drop j) v) (hj : s.length ≤ j) : v = .pointer none := by
  rw [List.drop_eq_nil_of_le hj] at h
  exact h

set_option maxHeartbeats 1600000 in
theorem letters_any (w : World) (lo : Nat) (v : Value) (s : List Int) (h : Chain w lo w.heap.size s v) (hl : s.length ≤ 1000000000) :
    Calls Try.prog 21 #[v] w (IntsRet w s.reverse) := by
  by_cases h0 : s.length = 0
  · have hn : s = [] := List.length_eq_zero_iff.1 h0
    subst hn
    have hnil : v = .pointer none := h
    subst hnil
    have hr : IntsRet w ([] : List Int).reverse (.returned (.slice none 0 0)) w := ⟨_, rfl, ⟨by simp, .inl ⟨rfl, rfl⟩⟩, Below.refl _ _⟩
    clear h h0 hl
    go_enter Try.func21, Try.ntmps21
    go_wp2
    go_ret
    exact hr
  · have hch : Chain w lo w.heap.size (s.drop 0) v := h
    obtain ⟨b0, p0, rfl, hb1, hb2, hc0, hc1, hc2, hnx⟩ := hch.next (j := 0) (by omega)
    obtain ⟨n, hn⟩ : ∃ n, n = s.length := ⟨_, rfl⟩
    obtain ⟨i0, hi, hz0, hz1, hz2⟩ := info_parts infoInt
    rw [← hn] at hl hc1 h0
    have hc1' : w.cell? ⟨b0, 1, none⟩ = some (.int .i64 (n : Int)) := by simpa using hc1
    replace hn := hidI hn
    replace h := hidI h
    clear hc1 hnx hc0 hc2 hch
    go_enter Try.func21, Try.ntmps21
    go_wp2_with (at_make; go_must (refine wpList_make_full _ rfl _ _ 23 rfl w.heap.size 3 i0 (.int .i64 0) 1 Try.underlying23 hi hz0 hz1 .i64 .i64 _ _ n rfl rfl rfl rfl ?c1 ?c2 ?c3 ?_))
    case c1 => rw [hz2]; omega
    case c2 => unfold maxLen; omega
    case c3 => exact Nat.le_refl _
    intro w1 hown hg
    rw [made_ints] at hown
    have hb := (Below.refl w.heap.size w).grown hg (Nat.le_refl _) (by intro k hk; cases hk)
    have hstart := hidI (h.out.below hb (Nat.le_refl _))
    clear hg hi hz0 hz1 hz2
    replace hown := hidI hown
    go_wp2
    go_loopg [0] n (fun k p wr => ∃ j : Nat, j + k = n ∧ Chain wr lo w.heap.size (s.drop j) p ∧ wr.ownsRow w.heap.size 3 1 (.slice (some ⟨w.heap.size, 0, none⟩) n n) n ((padR s j).map iv) ∧ Below w.heap.size w wr)
    case atStart => exact ⟨0, by omega, hstart.out, by rw [padR_zero, ← hn.out]; exact hown.out, hb⟩
    case round =>
      clear hown hb hstart hc1'
      obtain ⟨j, hj, hch, hown, hb⟩ := hrel
      by_cases hlt : j < n
      · obtain ⟨b, p, rfl, hl1, hl2, hx0, hx1, hx2, hnx⟩ := hch.next (j := j) (by have := hn.out; omega)
        obtain ⟨z, hz⟩ : ∃ z, z = s.getD j 0 := ⟨_, rfl⟩
        obtain ⟨i, hi⟩ : ∃ i, n = j + 1 + i := ⟨n - (j + 1), by omega⟩
        rw [← hz] at hx0
        have hx1' : wr.cell? ⟨b, 1, none⟩ = some (.int .i64 ((i : Int) + 1)) := by
          rw [hx1]
          have := hn.out
          congr 2
          omega
        have hold : ∃ v, wr.cell? ⟨w.heap.size, i, none⟩ = some v := by
          have hnl := hn.out
          rw [hown.cellAt _ (by omega)]
          exact ⟨_, List.getElem?_eq_getElem (by rw [List.length_map, padR_length _ _ (by omega)]; omega)⟩
        obtain ⟨v, hold⟩ := hold
        have hfr := hown.frozenAt i
        have hst := (hown.stored i (iv z)).1
        have hpi : s.length - 1 - j = i := by have := hn.out; omega
        rw [← List.map_set, hz, ← hpi, padR_step s j (by have := hn.out; omega), ← hz, hpi] at hst
        have hin : (i : Int) < (n : Int) := by omega
        have hbn : ¬ b = w.heap.size := by omega
        have hbb := (hb.setCell (p := ⟨w.heap.size, i, none⟩) (Nat.le_refl _) (iv z)).drew
        have hnx2 : Chain (wr.setCell ⟨w.heap.size, i, none⟩ (iv z)).drew lo w.heap.size (s.drop (j + 1)) p := hnx.below ((Below.refl w.heap.size wr).setCell (p := ⟨w.heap.size, i, none⟩) (Nat.le_refl _) (iv z)).drew (Nat.le_refl _)
        replace hst := hidI hst
        replace hnx2 := hidI hnx2
        replace hz := hidI hz
        replace hown := hidI hown
        replace hi := hidI hi
        replace hj := hidI hj
        clear hch hnx hx1 hpi
        go_wp2
        go_region
        have hx2' : ((wr.setCell ⟨w.heap.size, i, none⟩ (iv z)).drew).cell? ⟨b, 2, none⟩ = some p := by
          rw [World.cell?_drew, World.cell?_setCell_other _ _ _ _ (by simp only [ne_eq, Addr.mk.injEq]; omega)]
          exact hx2
        go_wp2
        go_roundg i
        case rel => exact ⟨j + 1, by have := hi.out; omega, hnx2.out, hst.out, hbb⟩
        case measure => have := hj.out; have := hi.out; omega
      · have hjn : j = n := by omega
        subst hjn
        have hnil := hch.end_ (by have := hn.out; omega)
        subst hnil
        have hrow : RowI wr w.heap.size wr.heap.size (.slice (some ⟨w.heap.size, 0, none⟩) j j) s.reverse := by
          have hnl := hn.out
          refine RowI.of_owns ?_ (by rw [List.length_reverse]; omega)
          rw [List.length_reverse, ← hnl]
          have := hown
          rw [hnl, padR_full, ← hnl] at this
          exact this
        replace hrow := hidI hrow
        replace hown := hidI hown
        clear hch
        go_wp2
        go_ret
        exact ⟨_, rfl, hrow.out, hb⟩
end Go.Proofs.Ytpjlamnjiilgbaa
