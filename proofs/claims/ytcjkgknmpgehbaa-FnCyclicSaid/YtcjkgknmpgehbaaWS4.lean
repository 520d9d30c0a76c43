/- Words, the model: CompareWords, PowerWord. -/
import Derived.Test.YtcjkgknmpgehbaaWS3
namespace Go.Proofs.Ytcjkgknmpgehbaa
open Go.RowKit
set_option linter.unusedVariables false

def IntRet (w : World) (z : Int) (e : Ending) (w' : World) : Prop := e = .returned (.int .i64 z) ∧ ∃ n, w' = w.drewN n
set_option maxHeartbeats 800000 in
theorem specCmp (w : World) (B : Nat) (v1 v2 : Value) (z1 z2 : List Int) (h1 : ReadI B w v1 z1) (h2 : ReadI B w v2 z2) :
    Calls Try.prog 62 #[v1, v2] w (IntRet w (cmpI z1 z2)) := by
  have hr1 := h1
  have hr2 := h2
  obtain ⟨hl1, a1, cap1, rfl, _, hq1⟩ := h1
  obtain ⟨hl2, a2, cap2, rfl, _, hq2⟩ := h2
  clear hq1 hq2
  by_cases hlen : z1.length = z2.length
  · obtain ⟨n, hn⟩ : ∃ n, n = z1.length := ⟨_, rfl⟩
    have hn2 : n = z2.length := by omega
    have hci : cmpI z1 z2 = cmpL z1 z2 := by unfold cmpI; rw [if_neg (by omega), if_neg (by omega)]
    rw [← hn2] at hr2 hl2 ⊢
    rw [← hn] at hr1 hl1 ⊢
    have hcl : ((n : Int) != (n : Int)) = false := by simp
    clear hlen
    replace hn := hidI hn
    replace hn2 := hidI hn2
    replace hr1 := hidI hr1
    replace hr2 := hidI hr2
    replace hci := hidI hci
    go_enter Try.func62, Try.ntmps62
    go_wp2
    go_loopw [5] (fun i wr => ∃ k m : Nat, k ≤ n ∧ i = .int .i64 k ∧ wr = w.drewN m ∧ cmpL z1 z2 = cmpL (z1.drop k) (z2.drop k)) (fun i _ => n - (intOf i).toNat)
    case atStart => exact ⟨0, 0, Nat.zero_le _, rfl, rfl, rfl⟩
    case round =>
      obtain ⟨k, m, hk, rfl, rfl, heq⟩ := hrel
      by_cases hlt : k < n
      · have hst := cmpL_drop z1 z2 k (by have := hn.out; omega) (by have := hn2.out; omega)
        obtain ⟨x, hx⟩ : ∃ x, x = z1.getD k 0 := ⟨_, rfl⟩
        obtain ⟨y, hy⟩ : ∃ y, y = z2.getD k 0 := ⟨_, rfl⟩
        obtain ⟨b1, off1, rfl, hB1, hc1⟩ := hr1.out.at_ k (by have := hn.out; omega)
        obtain ⟨b2, off2, rfl, hB2, hc2⟩ := hr2.out.at_ k (by have := hn2.out; omega)
        rw [← hx] at hc1 hst
        rw [← hy] at hc2 hst
        rw [hst] at heq
        obtain ⟨o, ho⟩ : ∃ o, o = ordI x y := ⟨_, rfl⟩
        rw [← ho] at heq
        have hlt2 : (k : Int) < (n : Int) := by omega
        obtain ⟨w0, hw0⟩ : ∃ w0, w0 = w.drewN m := ⟨_, rfl⟩
        have hc1' : w0.cell? ⟨b1, off1 + k, none⟩ = some (.int .i64 x) := by rw [hw0]; exact hc1
        have hc2' : w0.cell? ⟨b2, off2 + k, none⟩ = some (.int .i64 y) := by rw [hw0]; exact hc2
        rw [← hw0]
        clear hc1 hc2
        replace hw0 := hidI hw0
        have hcall := fun w' => specOrd w' x y
        rw [← ho] at hcall
        replace hx := hidI hx
        replace hy := hidI hy
        replace ho := hidI ho
        clear hst
        by_cases he : o = 0
        · rw [if_pos he] at heq
          have hne : (o != 0) = false := by rw [bne_eq_false_iff_eq]; exact he
          replace heq := hidI heq
          replace he := hidI he
          go_wp2
          go_quiet ((go_at_call 75; exact Calls.quiet_of_same (hcall _)))
          go_wp2
          go_roundw
          case rel => exact ⟨k + 1, _, by omega, by go_num, by rw [hw0.out]; exact World.drewN_drewN .., heq.out⟩
          case measure => simp [intOf]; omega
        · rw [if_neg he] at heq
          have hne : (o != 0) = true := by rw [bne_iff_ne]; exact he
          replace heq := hidI heq
          replace he := hidI he
          go_wp2
          go_quiet ((go_at_call 75; exact Calls.quiet_of_same (hcall _)))
          go_wp2
          go_ret
          exact ⟨ret_i (by rw [hci.out, heq.out]), _, by rw [hw0.out]; exact World.drewN_drewN ..⟩
      · obtain rfl : k = n := by omega
        have hz : cmpL z1 z2 = 0 := by
          rw [heq, List.drop_eq_nil_of_le (by have := hn.out; omega)]
          rfl
        replace hz := hidI hz
        clear heq
        go_wp2
        go_ret
        exact ⟨ret_i (by rw [hci.out, hz.out]), m, rfl⟩
  · have hc : ((z1.length : Int) != (z2.length : Int)) = true := by rw [bne_iff_ne]; omega
    replace hr1 := hidI hr1
    replace hr2 := hidI hr2
    by_cases hlt : z1.length < z2.length
    · have hci : cmpI z1 z2 = -1 := if_pos hlt
      have hlt2 : (z1.length : Int) < (z2.length : Int) := by omega
      replace hci := hidI hci
      replace hlen := hidI hlen
      go_enter Try.func62, Try.ntmps62
      go_wp2
      go_ret
      exact ⟨ret_i hci.out.symm, 0, rfl⟩
    · have hci : cmpI z1 z2 = 1 := by unfold cmpI; rw [if_neg hlt, if_pos (by omega)]
      have hlt2 : ¬ (z1.length : Int) < (z2.length : Int) := by omega
      replace hci := hidI hci
      replace hlen := hidI hlen
      go_enter Try.func62, Try.ntmps62
      go_wp2
      go_ret
      exact ⟨ret_i hci.out.symm, 0, rfl⟩
end Go.Proofs.Ytcjkgknmpgehbaa
