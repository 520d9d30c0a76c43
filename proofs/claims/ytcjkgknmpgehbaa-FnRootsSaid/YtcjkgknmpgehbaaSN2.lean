/- sameInts in full; small mathematics of the laws over cyclic words. -/
import Derived.Test.YtcjkgknmpgehbaaSN
import Derived.Test.YtcjkgknmpgehbaaLW2
import Derived.Test.YtcjkgknmpgehbaaDYb
import Derived.Test.YtcjkgknmpgehbaaMZ3
namespace Go.Proofs.Ytcjkgknmpgehbaa
open Go.RowKit
set_option linter.unusedVariables false

set_option maxHeartbeats 800000 in
theorem sameInts_any (w : World) (B : Nat) (v1 v2 : Value) (z1 z2 : List Int) (h1 : ReadI B w v1 z1) (h2 : ReadI B w v2 z2) :
    Calls Try.prog 18 #[v1, v2] w (BoolRet w (decide (z1 = z2))) := by
  have hr1 := h1
  have hr2 := h2
  obtain ⟨hl1, a1, cap1, rfl, _, hq1⟩ := h1
  obtain ⟨hl2, a2, cap2, rfl, _, hq2⟩ := h2
  clear hq1 hq2
  by_cases hlen : z1.length = z2.length
  · obtain ⟨n, hn⟩ : ∃ n, n = z1.length := ⟨_, rfl⟩
    have hn2 : n = z2.length := by omega
    rw [← hn2] at hr2 hl2 ⊢
    rw [← hn] at hr1 hl1 ⊢
    have hcl : ((n : Int) != (n : Int)) = false := by simp
    clear hlen
    replace hn := hidI hn
    replace hn2 := hidI hn2
    replace hr1 := hidI hr1
    replace hr2 := hidI hr2
    go_enter Try.func18, Try.ntmps18
    go_wp2
    go_loopw [5] (fun i wr => ∃ k m : Nat, k ≤ n ∧ i = .int .i64 k ∧ wr = w.drewN m ∧ ∀ i, i < k → z1.getD i 0 = z2.getD i 0) (fun i _ => n - (intOf i).toNat)
    case atStart => exact ⟨0, 0, Nat.zero_le _, rfl, rfl, fun i h => by omega⟩
    case round =>
      obtain ⟨k, m, hk, rfl, rfl, heq⟩ := hrel
      by_cases hlt : k < n
      · obtain ⟨x, hx⟩ : ∃ x, x = z1.getD k 0 := ⟨_, rfl⟩
        obtain ⟨y, hy⟩ : ∃ y, y = z2.getD k 0 := ⟨_, rfl⟩
        obtain ⟨b1, off1, rfl, hB1, hc1⟩ := hr1.out.at2 k (by have := hn.out; omega)
        obtain ⟨b2, off2, rfl, hB2, hc2⟩ := hr2.out.at2 k (by have := hn2.out; omega)
        rw [← hx] at hc1
        rw [← hy] at hc2
        have hlt2 : (k : Int) < (n : Int) := by omega
        replace heq := hidI heq
        by_cases he : x = y
        · have hs : ∀ i, i < k + 1 → z1.getD i 0 = z2.getD i 0 := by
            intro i hi
            by_cases e : i = k
            · subst e; rw [← hx, ← hy]; exact he
            · exact heq.out i (by omega)
          have hne : (x != y) = false := by rw [bne_eq_false_iff_eq]; exact he
          replace hs := hidI hs
          replace hx := hidI hx
          replace hy := hidI hy
          replace he := hidI he
          go_wp2
          go_quiet (fail)
          go_wp2
          go_roundw
          case rel => exact ⟨k + 1, _, by omega, by go_num, rfl, hs.out⟩
          case measure => simp [intOf]; omega
        · have hne : (x != y) = true := by rw [bne_iff_ne]; exact he
          have hd : decide (z1 = z2) = false := by
            rw [decide_eq_false_iff_not]
            intro e
            rw [hx, hy, e] at he
            exact he rfl
          replace hd := hidI hd
          replace hx := hidI hx
          replace hy := hidI hy
          replace he := hidI he
          go_wp2
          go_quiet (fail)
          go_wp2
          go_ret
          exact ⟨ret_bool hd.out.symm, _, World.drewN_drewN ..⟩
      · obtain rfl : k = n := by omega
        have hd : decide (z1 = z2) = true := by
          rw [decide_eq_true_eq]
          refine List.ext_getElem (by have := hn.out; have := hn2.out; omega) (fun i h1 h2 => ?_)
          have := heq i (by have := hn.out; omega)
          simpa [List.getD_eq_getElem?_getD, h1, h2] using this
        replace hd := hidI hd
        clear heq
        go_wp2
        go_ret
        exact ⟨ret_bool hd.out.symm, _, rfl⟩
  · have hc : ((z1.length : Int) != (z2.length : Int)) = true := by rw [bne_iff_ne]; omega
    have hd : decide (z1 = z2) = false := by
      rw [decide_eq_false_iff_not]
      intro e
      exact hlen (by rw [e])
    replace hlen := hidI hlen
    replace hd := hidI hd
    replace hr1 := hidI hr1
    replace hr2 := hidI hr2
    go_enter Try.func18, Try.ntmps18
    go_wp2
    go_ret
    exact ⟨ret_bool hd.out.symm, 0, rfl⟩

theorem Lets.good {r : Int} {zs : List Int} (h : Lets r zs) (hr : r ≤ 1000) : Good zs := fun x hx => by have := h x hx; omega
theorem Cyc.good {m : Nat} {zs : List Int} (h : Cyc m zs) : Good zs := h.1.good (by omega)
/-- The parts of the core make the word. -/
theorem core_mul {w : List Int} (h : InR w) : mulL (mulL (coreL w).2 (coreL w).1) (invL (coreL w).2) = redL w := by
  obtain ⟨h1, h2⟩ := coreL_in h
  unfold mulL
  rw [redL_left (h2.append h1) InR.invL, List.append_assoc, coreL_prod h, redL_redL h]
theorem conjW_in {a b : List Int} (ha : InR a) (hb : InR b) : InR (conjW a b).1 := by
  unfold conjW
  split
  · exact InR.nil
  · split
    · exact InR.nil
    · cases conjK (coreL a).1 (coreL b).1 (coreL a).1.length 0 with
      | none => exact InR.nil
      | some k => exact mulL_in (mulL_in (coreL_in ha).2 ((coreL_in ha).1.take k)) InR.invL
theorem rootL_in {w : List Int} (h : InR w) : InR (rootL w).1 := by
  unfold rootL
  split
  · exact InR.nil
  · exact mulL_in (mulL_in (coreL_in h).2 ((coreL_in h).1.take _)) InR.invL
theorem rootL_bd (w : List Int) : 0 ≤ (rootL w).2 ∧ (rootL w).2 ≤ (w.length : Int) := by
  unfold rootL
  split
  · exact ⟨Int.le_refl _, by show (0 : Int) ≤ _; omega⟩
  · have h1 := (coreL_length w).1
    have h2 := Nat.div_le_self (coreL w).1.length (rootOf w)
    exact ⟨Int.natCast_nonneg _, by show (((coreL w).1.length / rootOf w : Nat) : Int) ≤ _; omega⟩
end Go.Proofs.Ytcjkgknmpgehbaa
