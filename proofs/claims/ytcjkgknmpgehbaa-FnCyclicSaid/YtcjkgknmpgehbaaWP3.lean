/- Cyclic words, the program: RotateWord. -/
import Derived.Test.YtcjkgknmpgehbaaWP2
import Derived.Test.YtcjkgknmpgehbaaMZ4
namespace Go.Proofs.Ytcjkgknmpgehbaa
open Go.RowKit
set_option linter.unusedVariables false

theorem rot_parts (zs : List Int) (k : Int) (m : Nat) (hm : (m : Int) = remZ k zs.length) : m ≤ zs.length ∧ (zs.length = 0 ∨ m < zs.length) ∧ rotL zs k = zs.drop m ++ zs.take m := by
  unfold remZ at hm
  rcases Nat.eq_zero_or_pos zs.length with h0 | h0
  · rw [if_pos (by omega)] at hm
    have hz : zs = [] := List.length_eq_zero_iff.1 h0
    obtain rfl : m = 0 := by omega
    refine ⟨by omega, .inl h0, ?_⟩
    rw [hz]
    simp [rotL, rotN]
  · rw [if_neg (by omega)] at hm
    have h1 := Int.emod_lt_of_pos k (show (0 : Int) < (zs.length : Int) by omega)
    have e : m = (k % (zs.length : Int)).toNat := by omega
    refine ⟨by omega, .inr (by omega), ?_⟩
    unfold rotL rotN
    rw [← e, Nat.mod_eq_of_lt (by omega)]
/-- Two slices in a block of the call's own, put together. -/
theorem concat_two (w : World) (s1 s2 : Value) (z1 z2 zs : List Int) (h1 : ReadI w.heap.size w s1 z1) (h2 : ReadI w.heap.size w s2 z2) (he : zs = z1 ++ z2) (hl : zs.length ≤ 100000000) :
    Calls Try.prog 64 #[.slice (some ⟨w.heap.size, 0, none⟩) 2 2] (w.alloc (.cells #[s1, s2] 24)).drew (IntsRet w zs) := by
  have hb := (Below.refl w.heap.size w).alloc (Nat.le_refl _) (.cells #[s1, s2] 24)
  have hbd := below_dN hb 1
  have e : [z1, z2].flatten = zs := by rw [he]; simp
  have hll : ReadLL (w.heap.size + 1) (w.alloc (.cells #[s1, s2] 24)) (.slice (some ⟨w.heap.size, 0, none⟩) 2 2) [z1, z2] := readLL_lit (w := w) (vs := [s1, s2]) (zss := [z1, z2]) _ rfl rfl (by simp) (by
    intro i hi
    match i, hi with
    | 0, _ => exact h1
    | 1, _ => exact h2)
  have hll2 : ReadLL (w.alloc (.cells #[s1, s2] 24)).drew.heap.size (w.alloc (.cells #[s1, s2] 24)).drew (.slice (some ⟨w.heap.size, 0, none⟩) 2 2) [z1, z2] := by
    have hs : (w.alloc (.cells #[s1, s2] 24)).drew.heap.size = w.heap.size + 1 := by simp
    rw [hs]
    exact hll.below (below_dN (Below.refl _ _) 1)
  have hcall := concat_any _ _ [z1, z2] hll2 (by rw [e]; omega)
  rw [e] at hcall
  exact hcall.mono fun e w' hr => hr.over hbd
set_option maxHeartbeats 1600000 in
theorem rotate_any (w : World) (v : Value) (zs : List Int) (k : Int) (h : ReadI w.heap.size w v zs) (hl : zs.length ≤ 100000000) (hk1 : -9223372036854775808 ≤ k) (hk2 : k ≤ 9223372036854775807) :
    Calls Try.prog 32 #[v, .int .i64 k] w (IntsRet w (rotL zs k)) := by
  have hread := h
  obtain ⟨_, a, cap, rfl, ⟨hnil, hcap⟩, hr⟩ := h
  obtain ⟨n, hn⟩ : ∃ n, n = zs.length := ⟨_, rfl⟩
  rw [← hn] at hl hread hcap ⊢
  have hrem := remainder_any w k n hk1 hk2 (by omega)
  obtain ⟨m, hm⟩ : ∃ m : Nat, (m : Int) = remZ k n := by
    refine ⟨(remZ k n).toNat, Int.toNat_of_nonneg ?_⟩
    unfold remZ
    split
    · omega
    · exact Int.emod_nonneg _ (by omega)
  obtain ⟨hmn, hmlt, hrot⟩ := rot_parts zs k m (by rw [← hn]; exact hm)
  obtain ⟨F, hF⟩ : ∃ F, F = rotL zs k := ⟨_, rfl⟩
  rw [← hF] at hrot ⊢
  have hFl : F.length ≤ 100000000 := by rw [hF, rotL_length]; omega
  rw [← hm] at hrem
  rw [← hn] at hmn hmlt
  replace hm := hidI hm
  replace hF := hidI hF
  have hempty : zs = [] → Calls Try.prog 32 #[.slice a n cap, .int .i64 k] w (IntsRet w F) := by
    intro hz
    clear hr
    have hn0 : n = 0 := by rw [hn, hz]; rfl
    subst hn0
    obtain rfl : m = 0 := by omega
    have hcall := concat_two w (.slice a 0 cap) (.slice a 0 cap) zs zs F hread hread (by rw [hrot, hz]; rfl) hFl
    replace hn := hidI hn
    replace hz := hidI hz
    replace hread := hidI hread
    clear hrot
    have hab : a = none ∨ ∃ ad, a = some ad := by cases a; exact .inl rfl; exact .inr ⟨_, rfl⟩
    rcases hab with rfl | ⟨ad, rfl⟩
    · obtain rfl := hnil rfl
      clear hnil
      go_enter Try.func32, Try.ntmps32
      go_wp2_with fail
      refine hrem.mono ?_
      rintro e w1 ⟨rfl, rfl⟩
      go_wp2_with fail
      go_region_with (go_at_call 64; (with_reducible refine hcall.mono ?_); rintro e w1 ⟨v1, rfl, hrow, hb⟩; replace hrow := hidI hrow)
      all_goals
        go_wp2
        go_ret
        exact ⟨_, rfl, hrow.out, hb⟩
    · by_cases hc0 : cap = 0
      · subst hc0
        clear hnil
        go_enter Try.func32, Try.ntmps32
        go_wp2_with fail
        refine hrem.mono ?_
        rintro e w1 ⟨rfl, rfl⟩
        go_wp2_with fail
        go_region_with (go_at_call 64; (with_reducible refine hcall.mono ?_); rintro e w1 ⟨v1, rfl, hrow, hb⟩; replace hrow := hidI hrow)
        all_goals
          go_wp2
          go_ret
          exact ⟨_, rfl, hrow.out, hb⟩
      · have hc1 : ¬ 0 = cap := by omega
        have hc2 : ¬ (0 : Int) = (cap : Int) := by omega
        clear hnil
        go_enter Try.func32, Try.ntmps32
        go_wp2_with fail
        refine hrem.mono ?_
        rintro e w1 ⟨rfl, rfl⟩
        go_wp2_with fail
        go_region_with (go_at_call 64; (with_reducible refine hcall.mono ?_); rintro e w1 ⟨v1, rfl, hrow, hb⟩; replace hrow := hidI hrow)
        all_goals
          go_wp2
          go_ret
          exact ⟨_, rfl, hrow.out, hb⟩
  rcases hr with hz | ⟨b, off, rfl, hB, hc⟩
  · exact hempty hz
  · by_cases hz : zs = []
    · exact hempty hz
    · have hpos : 0 < n := by
        rcases Nat.eq_zero_or_pos n with h | h
        · exact absurd (List.length_eq_zero_iff.1 (by omega)) hz
        · exact h
      have hmn2 : m < n := by omega
      clear hempty
      have h1 : ReadI w.heap.size w (.slice (some ⟨b, off + m, none⟩) (n - m) (cap - m)) (zs.drop m) := by
        have := hread.part hn m (n - m) (cap - m) (by omega) (by omega)
        rwa [List.take_of_length_le (by rw [List.length_drop]; omega)] at this
      have h2 : ReadI w.heap.size w (.slice (some ⟨b, off, none⟩) m cap) (zs.take m) := hread.first m (by omega)
      have hcall := concat_two w _ _ _ _ F h1 h2 hrot hFl
      have hcm : ¬ cap = m := by omega
      have hmc : m ≤ cap := by omega
      have hmci : (m : Int) ≤ (cap : Int) := by omega
      have hmni : (m : Int) ≤ (n : Int) := by omega
      replace hn := hidI hn
      replace hz := hidI hz
      replace hread := hidI hread
      replace h1 := hidI h1
      replace h2 := hidI h2
      replace hrot := hidI hrot
      clear hnil hc
      go_enter Try.func32, Try.ntmps32
      go_wp2_with fail
      refine hrem.mono ?_
      rintro e w1 ⟨rfl, rfl⟩
      go_wp2_with fail
      go_region_with (go_at_call 64; (with_reducible refine hcall.mono ?_); rintro e w1 ⟨v1, rfl, hrow, hb⟩; replace hrow := hidI hrow)
      all_goals
        go_wp2
        go_ret
        exact ⟨_, rfl, hrow.out, hb⟩
end Go.Proofs.Ytcjkgknmpgehbaa
