/- Words, the program: the order of letters, CompareWords. -/
import Derived.Test.YtcjkgknmpgehbaaMX
import Derived.Test.YtcjkgknmpgehbaaWS4
import Derived.Test.YtcjkgknmpgehbaaWH
namespace Go.Proofs.Ytcjkgknmpgehbaa
open Go.RowKit
set_option linter.unusedVariables false

def cmpZ (a b : Int) : Int := if a < b then -1 else if b < a then 1 else 0
theorem nan_int (w : World) (x : Int) : Calls Try.prog 82 #[.int .i64 x] w fun e w' => e = .returned (.bool false) ∧ w = w' := by
  have h : (x != x) = false := by simp
  go_enter Try.func82, Try.ntmps82
  go_wp2
  go_ret
  exact ⟨rfl, rfl⟩
theorem nan_uint (w : World) (x : Int) : Calls Try.prog 81 #[.int .u64 x] w fun e w' => e = .returned (.bool false) ∧ w = w' := by
  have h : (x != x) = false := by simp
  go_enter Try.func81, Try.ntmps81
  go_wp2
  go_ret
  exact ⟨rfl, rfl⟩
theorem cmp_int (w : World) (a b : Int) : Calls Try.prog 80 #[.int .i64 a, .int .i64 b] w fun e w' => e = .returned (.int .i64 (cmpZ a b)) ∧ w = w' := by
  by_cases h1 : a < b
  · have hz : cmpZ a b = -1 := if_pos h1
    replace hz := hidI hz
    go_enter Try.func80, Try.ntmps80
    go_wp2_with (go_at_call 82; refine (nan_int _ _).mono ?_; rintro e w' ⟨rfl, rfl⟩)
    go_ret
    exact ⟨ret_i hz.out.symm, rfl⟩
  · by_cases h2 : b < a
    · have hz : cmpZ a b = 1 := by unfold cmpZ; rw [if_neg h1, if_pos h2]
      replace hz := hidI hz
      go_enter Try.func80, Try.ntmps80
      go_wp2_with (go_at_call 82; refine (nan_int _ _).mono ?_; rintro e w' ⟨rfl, rfl⟩)
      go_ret
      exact ⟨ret_i hz.out.symm, rfl⟩
    · have hz : cmpZ a b = 0 := by unfold cmpZ; rw [if_neg h1, if_neg h2]
      replace hz := hidI hz
      go_enter Try.func80, Try.ntmps80
      go_wp2_with (go_at_call 82; refine (nan_int _ _).mono ?_; rintro e w' ⟨rfl, rfl⟩)
      go_ret
      exact ⟨ret_i hz.out.symm, rfl⟩
theorem cmp_uint (w : World) (a b : Int) : Calls Try.prog 78 #[.int .u64 a, .int .u64 b] w fun e w' => e = .returned (.int .i64 (cmpZ a b)) ∧ w = w' := by
  by_cases h1 : a < b
  · have hz : cmpZ a b = -1 := if_pos h1
    replace hz := hidI hz
    go_enter Try.func78, Try.ntmps78
    go_wp2_with (go_at_call 81; refine (nan_uint _ _).mono ?_; rintro e w' ⟨rfl, rfl⟩)
    go_ret
    exact ⟨ret_i hz.out.symm, rfl⟩
  · by_cases h2 : b < a
    · have hz : cmpZ a b = 1 := by unfold cmpZ; rw [if_neg h1, if_pos h2]
      replace hz := hidI hz
      go_enter Try.func78, Try.ntmps78
      go_wp2_with (go_at_call 81; refine (nan_uint _ _).mono ?_; rintro e w' ⟨rfl, rfl⟩)
      go_ret
      exact ⟨ret_i hz.out.symm, rfl⟩
    · have hz : cmpZ a b = 0 := by unfold cmpZ; rw [if_neg h1, if_neg h2]
      replace hz := hidI hz
      go_enter Try.func78, Try.ntmps78
      go_wp2_with (go_at_call 81; refine (nan_uint _ _).mono ?_; rintro e w' ⟨rfl, rfl⟩)
      go_ret
      exact ⟨ret_i hz.out.symm, rfl⟩
theorem ret_u {a b : Int} (h : a = b) : Ending.returned (.int .u64 a) = .returned (.int .u64 b) := by rw [h]
theorem dist_any (w : World) (x : Int) (hx : -9223372036854775808 ≤ x ∧ x ≤ 9223372036854775807) :
    Calls Try.prog 79 #[.int .i64 x] w fun e w' => e = .returned (.int .u64 (x.natAbs : Int)) ∧ w = w' := by
  obtain ⟨hx1, hx2⟩ := hx
  by_cases h : x < 0
  · go_enter Try.func79, Try.ntmps79
    go_wp2
    go_ret
    exact ⟨ret_u (by rw [IntKind.wrap_u64, IntKind.wrap_u64]; omega), rfl⟩
  · go_enter Try.func79, Try.ntmps79
    go_wp2
    go_ret
    exact ⟨ret_u (by omega), rfl⟩
theorem ordI_cmp {x y : Int} (hx : -9223372036854775808 ≤ x ∧ x ≤ 9223372036854775807) (hy : -9223372036854775808 ≤ y ∧ y ≤ 9223372036854775807) :
    ordI x y = if cmpZ (x.natAbs : Int) (y.natAbs : Int) = 0 then cmpZ y x else cmpZ (x.natAbs : Int) (y.natAbs : Int) := by
  obtain ⟨A, hA⟩ : ∃ A, A = max x (ng x) := ⟨_, rfl⟩
  obtain ⟨B, hB⟩ : ∃ B, B = max y (ng y) := ⟨_, rfl⟩
  obtain ⟨p, hp⟩ : ∃ p : Int, p = (x.natAbs : Int) := ⟨_, rfl⟩
  obtain ⟨q, hq⟩ : ∃ q : Int, q = (y.natAbs : Int) := ⟨_, rfl⟩
  have kA : (x = -9223372036854775808 ∧ A = -9223372036854775808 ∧ p = 9223372036854775808) ∨ (x ≠ -9223372036854775808 ∧ A = p ∧ p ≤ 9223372036854775807) := by
    by_cases h : x = -9223372036854775808
    · rw [h, ng_min] at hA; omega
    · rw [ng_of (by omega) hx.2] at hA; omega
  have kB : (y = -9223372036854775808 ∧ B = -9223372036854775808 ∧ q = 9223372036854775808) ∨ (y ≠ -9223372036854775808 ∧ B = q ∧ q ≤ 9223372036854775807) := by
    by_cases h : y = -9223372036854775808
    · rw [h, ng_min] at hB; omega
    · rw [ng_of (by omega) hy.2] at hB; omega
  have kp : 0 ≤ p ∧ (p = x ∨ p = -x) := by omega
  have kq : 0 ≤ q ∧ (q = y ∨ q = -y) := by omega
  unfold ordI
  rw [← hA, ← hB, ← hp, ← hq]
  clear hA hB hp hq
  unfold cmpZ
  by_cases h1 : p < q
  · rw [if_pos h1, if_neg (by omega), if_neg (by omega), if_neg (by omega), if_neg (by omega), if_neg (by omega)]
  · rw [if_neg h1]
    by_cases h2 : q < p
    · rw [if_pos h2, if_neg (by omega)]
      by_cases h3 : A < 0
      · rw [if_pos h3]; rfl
      · rw [if_neg h3, if_pos (by omega)]; rfl
    · rw [if_neg h2, if_pos rfl]
      by_cases h3 : x = y
      · rw [if_pos h3, if_neg (by omega), if_neg (by omega)]
      · rw [if_neg h3, if_neg (by omega), if_neg (by omega)]
        by_cases h4 : y < x
        · rw [if_pos h4, if_neg (by omega)]
        · rw [if_neg h4, if_pos (by omega), if_pos (by omega)]
set_option maxHeartbeats 800000 in
theorem letters_cmp (w : World) (x y : Int) (hx : -9223372036854775808 ≤ x ∧ x ≤ 9223372036854775807) (hy : -9223372036854775808 ≤ y ∧ y ≤ 9223372036854775807) :
    Calls Try.prog 73 #[.int .i64 x, .int .i64 y] w fun e w' => e = .returned (.int .i64 (ordI x y)) ∧ w = w' := by
  have ho := ordI_cmp hx hy
  have hd1 := dist_any w x hx
  have hd2 := dist_any w y hy
  have hc1 := cmp_uint w (x.natAbs : Int) (y.natAbs : Int)
  have hc2 := cmp_int w y x
  obtain ⟨p, hp⟩ : ∃ p, p = (x.natAbs : Int) := ⟨_, rfl⟩
  obtain ⟨q, hq⟩ : ∃ q, q = (y.natAbs : Int) := ⟨_, rfl⟩
  rw [← hp] at ho hd1 hc1
  rw [← hq] at ho hd2 hc1
  obtain ⟨c, hc⟩ : ∃ c, c = cmpZ p q := ⟨_, rfl⟩
  obtain ⟨d, hd⟩ : ∃ d, d = cmpZ y x := ⟨_, rfl⟩
  rw [← hc, ← hd] at ho
  rw [← hc] at hc1
  rw [← hd] at hc2
  replace hp := hidI hp
  replace hq := hidI hq
  replace hc := hidI hc
  replace hd := hidI hd
  by_cases h0 : c = 0
  · rw [if_pos h0] at ho
    have hn : (c != 0) = false := by rw [bne_eq_false_iff_eq]; exact h0
    replace h0 := hidI h0
    replace ho := hidI ho
    go_enter Try.func73, Try.ntmps73
    go_wp2_with fail
    refine hd1.mono ?_
    rintro e w1 ⟨rfl, rfl⟩
    go_wp2_with fail
    refine hd2.mono ?_
    rintro e w1 ⟨rfl, rfl⟩
    go_wp2_with fail
    refine hc1.mono ?_
    rintro e w1 ⟨rfl, rfl⟩
    go_wp2_with fail
    refine hc2.mono ?_
    rintro e w1 ⟨rfl, rfl⟩
    go_wp2
    go_ret
    exact ⟨ret_i ho.out.symm, rfl⟩
  · rw [if_neg h0] at ho
    have hn : (c != 0) = true := by rw [bne_iff_ne]; exact h0
    replace h0 := hidI h0
    replace ho := hidI ho
    go_enter Try.func73, Try.ntmps73
    go_wp2_with fail
    refine hd1.mono ?_
    rintro e w1 ⟨rfl, rfl⟩
    go_wp2_with fail
    refine hd2.mono ?_
    rintro e w1 ⟨rfl, rfl⟩
    go_wp2_with fail
    refine hc1.mono ?_
    rintro e w1 ⟨rfl, rfl⟩
    go_wp2
    go_ret
    exact ⟨ret_i ho.out.symm, rfl⟩
end Go.Proofs.Ytcjkgknmpgehbaa
