/- Words, the program: EqualWords. -/
import Derived.Test.YtmafaglgegimfaaLI
namespace Go.Proofs.Ytmafaglgegimfaa
open Go.RowKit
set_option linter.unusedVariables false

set_option maxHeartbeats 800000 in
theorem slEqual_any (w : World) (B : Nat) (v1 v2 : Value) (z1 z2 : List Int) (h1 : ReadI B w v1 z1) (h2 : ReadI B w v2 z2) :
    Calls Try.prog 100 #[v1, v2] w (BoolRet w (decide (z1 = z2))) := by
  have hr1 := h1
  have hr2 := h2
  obtain ⟨hl1, a1, cap1, rfl, _, hq1⟩ := h1
  obtain ⟨hl2, a2, cap2, rfl, _, hq2⟩ := h2
  clear hq1 hq2
  by_cases hlen : z1.length = z2.length
  · obtain ⟨n, hn⟩ : ∃ n, n = z1.length := ⟨_, rfl⟩
    have hn2 : n = z2.length := by omega
    rw [← hn2] at hr2 hl2 ⊢
    rw [← hn] at hr1 hl1 ⊢
    have hcl : ((n : Int) != (n : Int)) = false := by simp
    clear hlen
    replace hn := hidI hn
    replace hn2 := hidI hn2
    replace hr1 := hidI hr1
    replace hr2 := hidI hr2
    go_enter Try.func100, Try.ntmps100
    go_wp2
    go_loopw [13] (fun i wr => ∃ k m : Nat, k ≤ n ∧ i = .int .i64 k ∧ wr = w.drewN m ∧ ∀ i, i < k → z1.getD i 0 = z2.getD i 0) (fun i _ => n - (intOf i).toNat)
    case atStart => exact ⟨0, 0, Nat.zero_le _, rfl, rfl, fun i h => by omega⟩
    case round =>
      obtain ⟨k, m, hk, rfl, rfl, heq⟩ := hrel
      by_cases hlt : k < n
      · obtain ⟨x, hx⟩ : ∃ x, x = z1.getD k 0 := ⟨_, rfl⟩
        obtain ⟨y, hy⟩ : ∃ y, y = z2.getD k 0 := ⟨_, rfl⟩
        obtain ⟨b1, off1, rfl, hB1, hc1⟩ := hr1.out.at2 k (by have := hn.out; omega)
        obtain ⟨b2, off2, rfl, hB2, hc2⟩ := hr2.out.at2 k (by have := hn2.out; omega)
        rw [← hx] at hc1
        rw [← hy] at hc2
        have hlt2 : (k : Int) < (n : Int) := by omega
        replace heq := hidI heq
        by_cases he : x = y
        · have hs : ∀ i, i < k + 1 → z1.getD i 0 = z2.getD i 0 := by
            intro i hi
            by_cases e : i = k
            · subst e; rw [← hx, ← hy]; exact he
            · exact heq.out i (by omega)
          have hne : (x != y) = false := by rw [bne_eq_false_iff_eq]; exact he
          replace hs := hidI hs
          replace hx := hidI hx
          replace hy := hidI hy
          replace he := hidI he
          go_wp2
          go_quiet (fail)
          go_wp2
          go_roundw
          case rel => exact ⟨k + 1, _, by omega, by go_num, rfl, hs.out⟩
          case measure => simp [intOf]; omega
        · have hne : (x != y) = true := by rw [bne_iff_ne]; exact he
          have hd : decide (z1 = z2) = false := by
            rw [decide_eq_false_iff_not]
            intro e
            rw [hx, hy, e] at he
            exact he rfl
          replace hd := hidI hd
          replace hx := hidI hx
          replace hy := hidI hy
          replace he := hidI he
          go_wp2
          go_quiet (fail)
          go_wp2
          go_ret
          exact ⟨ret_bool hd.out.symm, _, World.drewN_drewN ..⟩
      · obtain rfl : k = n := by omega
        have hd : decide (z1 = z2) = true := by
          rw [decide_eq_true_eq]
          refine List.ext_getElem (by have := hn.out; have := hn2.out; omega) (fun i h1 h2 => ?_)
          have := heq i (by have := hn.out; omega)
          simpa [List.getD_eq_getElem?_getD, h1, h2] using this
        replace hd := hidI hd
        clear heq
        go_wp2
        go_ret
        exact ⟨ret_bool hd.out.symm, _, rfl⟩
  · have hc : ((z1.length : Int) != (z2.length : Int)) = true := by rw [bne_iff_ne]; omega
    have hd : decide (z1 = z2) = false := by
      rw [decide_eq_false_iff_not]
      intro e
      exact hlen (by rw [e])
    replace hlen := hidI hlen
    replace hd := hidI hd
    replace hr1 := hidI hr1
    replace hr2 := hidI hr2
    go_enter Try.func100, Try.ntmps100
    go_wp2
    go_ret
    exact ⟨ret_bool hd.out.symm, 0, rfl⟩
theorem equal_any (w : World) (B : Nat) (v1 v2 : Value) (z1 z2 : List Int) (h1 : ReadI B w v1 z1) (h2 : ReadI B w v2 z2) :
    Calls Try.prog 77 #[v1, v2] w (BoolRet w (decide (z1 = z2))) := by
  have hcall := slEqual_any w B v1 v2 z1 z2 h1 h2
  obtain ⟨d, hd⟩ : ∃ d, d = decide (z1 = z2) := ⟨_, rfl⟩
  rw [← hd] at hcall ⊢
  replace h1 := hidI h1
  replace h2 := hidI h2
  replace hd := hidI hd
  go_enter Try.func77, Try.ntmps77
  go_wp2_with fail
  refine hcall.mono ?_
  rintro e w1 ⟨rfl, n, rfl⟩
  clear hcall
  go_wp2
  go_ret
  exact ⟨rfl, n, rfl⟩
end Go.Proofs.Ytmafaglgegimfaa
