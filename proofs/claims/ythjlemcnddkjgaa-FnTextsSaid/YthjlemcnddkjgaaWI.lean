/- Words, the program: the order of letters, CompareWords. -/
import Derived.Test.YthjlemcnddkjgaaMX
import Derived.Test.YthjlemcnddkjgaaWS4
import Derived.Test.YthjlemcnddkjgaaWH
namespace Go.Proofs.Ythjlemcnddkjgaa
open Go.RowKit
set_option linter.unusedVariables false

def cmpZ (a b : Int) : Int := if a < b then -1 else if b < a then 1 else 0
theorem nan_int (w : World) (x : Int) : Calls Try.prog 80 #[.int .i64 x] w fun e w' => e = .returned (.bool false) ∧ w = w' := by
  have h : (x != x) = false := by simp
  go_enter Try.func80, Try.ntmps80
  go_wp2
  go_ret
  exact ⟨rfl, rfl⟩
theorem nan_uint (w : World) (x : Int) : Calls Try.prog 87 #[.int .u64 x] w fun e w' => e = .returned (.bool false) ∧ w = w' := by
  have h : (x != x) = false := by simp
  go_enter Try.func87, Try.ntmps87
  go_wp2
  go_ret
  exact ⟨rfl, rfl⟩
theorem cmp_int (w : World) (a b : Int) : Calls Try.prog 68 #[.int .i64 a, .int .i64 b] w fun e w' => e = .returned (.int .i64 (cmpZ a b)) ∧ w = w' := by
  by_cases h1 : a < b
  · have hz : cmpZ a b = -1 := if_pos h1
    replace hz := hidI hz
    go_enter Try.func68, Try.ntmps68
    go_wp2_with (go_at_call 80; refine (nan_int _ _).mono ?_; rintro e w' ⟨rfl, rfl⟩)
    go_ret
    exact ⟨ret_i hz.out.symm, rfl⟩
  · by_cases h2 : b < a
    · have hz : cmpZ a b = 1 := by unfold cmpZ; rw [if_neg h1, if_pos h2]
      replace hz := hidI hz
      go_enter Try.func68, Try.ntmps68
      go_wp2_with (go_at_call 80; refine (nan_int _ _).mono ?_; rintro e w' ⟨rfl, rfl⟩)
      go_ret
      exact ⟨ret_i hz.out.symm, rfl⟩
    · have hz : cmpZ a b = 0 := by unfold cmpZ; rw [if_neg h1, if_neg h2]
      replace hz := hidI hz
      go_enter Try.func68, Try.ntmps68
      go_wp2_with (go_at_call 80; refine (nan_int _ _).mono ?_; rintro e w' ⟨rfl, rfl⟩)
      go_ret
      exact ⟨ret_i hz.out.symm, rfl⟩
theorem cmp_uint (w : World) (a b : Int) : Calls Try.prog 81 #[.int .u64 a, .int .u64 b] w fun e w' => e = .returned (.int .i64 (cmpZ a b)) ∧ w = w' := by
  by_cases h1 : a < b
  · have hz : cmpZ a b = -1 := if_pos h1
    replace hz := hidI hz
    go_enter Try.func81, Try.ntmps81
    go_wp2_with (go_at_call 87; refine (nan_uint _ _).mono ?_; rintro e w' ⟨rfl, rfl⟩)
    go_ret
    exact ⟨ret_i hz.out.symm, rfl⟩
  · by_cases h2 : b < a
    · have hz : cmpZ a b = 1 := by unfold cmpZ; rw [if_neg h1, if_pos h2]
      replace hz := hidI hz
      go_enter Try.func81, Try.ntmps81
      go_wp2_with (go_at_call 87; refine (nan_uint _ _).mono ?_; rintro e w' ⟨rfl, rfl⟩)
      go_ret
      exact ⟨ret_i hz.out.symm, rfl⟩
    · have hz : cmpZ a b = 0 := by unfold cmpZ; rw [if_neg h1, if_neg h2]
      replace hz := hidI hz
      go_enter Try.func81, Try.ntmps81
      go_wp2_with (go_at_call 87; refine (nan_uint _ _).mono ?_; rintro e w' ⟨rfl, rfl⟩)
      go_ret
      exact ⟨ret_i hz.out.symm, rfl⟩
theorem ret_u {a b : Int} (h : a = b) : Ending.returned (.int .u64 a) = .returned (.int .u64 b) := by rw [h]
theorem dist_any (w : World) (x : Int) (hx : -9223372036854775808 ≤ x ∧ x ≤ 9223372036854775807) :
    Calls Try.prog 82 #[.int .i64 x] w fun e w' => e = .returned (.int .u64 (x.natAbs : Int)) ∧ w = w' := by
  obtain ⟨hx1, hx2⟩ := hx
  by_cases h : x < 0
  · go_enter Try.func82, Try.ntmps82
    go_wp2
    go_ret
    exact ⟨ret_u (by rw [IntKind.wrap_u64, IntKind.wrap_u64]; omega), rfl⟩
  · go_enter Try.func82, Try.ntmps82
    go_wp2
    go_ret
    exact ⟨ret_u (by omega), rfl⟩
theorem ordI_cmp {x y : Int} (hx : -9223372036854775808 ≤ x ∧ x ≤ 9223372036854775807) (hy : -9223372036854775808 ≤ y ∧ y ≤ 9223372036854775807) :
    ordI x y = if cmpZ (x.natAbs : Int) (y.natAbs : Int) = 0 then cmpZ y x else cmpZ (x.natAbs : Int) (y.natAbs : Int) := by
  obtain ⟨A, hA⟩ : ∃ A, A = max x (ng x) := ⟨_, rfl⟩
  obtain ⟨B, hB⟩ : ∃ B, B = max y (ng y) := ⟨_, rfl⟩
  obtain ⟨p, hp⟩ : ∃ p : Int, p = (x.natAbs : Int) := ⟨_, rfl⟩
  obtain ⟨q, hq⟩ : ∃ q : Int, q = (y.natAbs : Int) := ⟨_, rfl⟩
  have kA : (x = -9223372036854775808 ∧ A = -9223372036854775808 ∧ p = 9223372036854775808) ∨ (x ≠ -9223372036854775808 ∧ A = p ∧ p ≤ 9223372036854775807) := by
    by_cases h : x = -9223372036854775808
    · rw [h, ng_min] at hA; omega
    · rw [ng_of (by omega) hx.2] at hA; omega
  have kB : (y = -9223372036854775808 ∧ B = -9223372036854775808 ∧ q = 9223372036854775808) ∨ (y ≠ -9223372036854775808 ∧ B = q ∧ q ≤ 9223372036854775807) := by
    by_cases h : y = -9223372036854775808
    · rw [h, ng_min] at hB; omega
    · rw [ng_of (by omega) hy.2] at hB; omega
  have kp : 0 ≤ p ∧ (p = x ∨ p = -x) := by omega
  have kq : 0 ≤ q ∧ (q = y ∨ q = -y) := by omega
  unfold ordI
  rw [← hA, ← hB, ← hp, ← hq]
  clear hA hB hp hq
  unfold cmpZ
  by_cases h1 : p < q
  · rw [if_pos h1, if_neg (by omega), if_neg (by omega), if_neg (by omega), if_neg (by omega), if_neg (by omega)]
  · rw [if_neg h1]
    by_cases h2 : q < p
    · rw [if_pos h2, if_neg (by omega)]
      by_cases h3 : A < 0
      · rw [if_pos h3]; rfl
      · rw [if_neg h3, if_pos (by omega)]; rfl
    · rw [if_neg h2, if_pos rfl]
      by_cases h3 : x = y
      · rw [if_pos h3, if_neg (by omega), if_neg (by omega)]
      · rw [if_neg h3, if_neg (by omega), if_neg (by omega)]
        by_cases h4 : y < x
        · rw [if_pos h4, if_neg (by omega)]
        · rw [if_neg h4, if_pos (by omega), if_pos (by omega)]
set_option maxHeartbeats 800000 in
theorem letters_cmp (w : World) (x y : Int) (hx : -9223372036854775808 ≤ x ∧ x ≤ 9223372036854775807) (hy : -9223372036854775808 ≤ y ∧ y ≤ 9223372036854775807) :
    Calls Try.prog 70 #[.int .i64 x, .int .i64 y] w fun e w' => e = .returned (.int .i64 (ordI x y)) ∧ w = w' := by
  have ho := ordI_cmp hx hy
  have hd1 := dist_any w x hx
  have hd2 := dist_any w y hy
  have hc1 := cmp_uint w (x.natAbs : Int) (y.natAbs : Int)
  have hc2 := cmp_int w y x
  obtain ⟨p, hp⟩ : ∃ p, p = (x.natAbs : Int) := ⟨_, rfl⟩
  obtain ⟨q, hq⟩ : ∃ q, q = (y.natAbs : Int) := ⟨_, rfl⟩
  rw [← hp] at ho hd1 hc1
  rw [← hq] at ho hd2 hc1
  obtain ⟨c, hc⟩ : ∃ c, c = cmpZ p q := ⟨_, rfl⟩
  obtain ⟨d, hd⟩ : ∃ d, d = cmpZ y x := ⟨_, rfl⟩
  rw [← hc, ← hd] at ho
  rw [← hc] at hc1
  rw [← hd] at hc2
  replace hp := hidI hp
  replace hq := hidI hq
  replace hc := hidI hc
  replace hd := hidI hd
  by_cases h0 : c = 0
  · rw [if_pos h0] at ho
    have hn : (c != 0) = false := by rw [bne_eq_false_iff_eq]; exact h0
    replace h0 := hidI h0
    replace ho := hidI ho
    go_enter Try.func70, Try.ntmps70
    go_wp2_with fail
    refine hd1.mono ?_
    rintro e w1 ⟨rfl, rfl⟩
    go_wp2_with fail
    refine hd2.mono ?_
    rintro e w1 ⟨rfl, rfl⟩
    go_wp2_with fail
    refine hc1.mono ?_
    rintro e w1 ⟨rfl, rfl⟩
    go_wp2_with fail
    refine hc2.mono ?_
    rintro e w1 ⟨rfl, rfl⟩
    go_wp2
    go_ret
    exact ⟨ret_i ho.out.symm, rfl⟩
  · rw [if_neg h0] at ho
    have hn : (c != 0) = true := by rw [bne_iff_ne]; exact h0
    replace h0 := hidI h0
    replace ho := hidI ho
    go_enter Try.func70, Try.ntmps70
    go_wp2_with fail
    refine hd1.mono ?_
    rintro e w1 ⟨rfl, rfl⟩
    go_wp2_with fail
    refine hd2.mono ?_
    rintro e w1 ⟨rfl, rfl⟩
    go_wp2_with fail
    refine hc1.mono ?_
    rintro e w1 ⟨rfl, rfl⟩
    go_wp2
    go_ret
    exact ⟨ret_i ho.out.symm, rfl⟩
set_option maxHeartbeats 800000 in
theorem cmpFunc_any (w : World) (B : Nat) (v1 v2 : Value) (z1 z2 : List Int) (h1 : ReadI B w v1 z1) (h2 : ReadI B w v2 z2) (hi1 : InR z1) (hi2 : InR z2) (hlen : z1.length = z2.length) :
    Calls Try.prog 69 #[v1, v2, .func (.func 70) #[] #[]] w (IntRet w (cmpL z1 z2)) := by
  have hr1 := h1
  have hr2 := h2
  obtain ⟨hl1, a1, cap1, rfl, _, hq1⟩ := h1
  obtain ⟨hl2, a2, cap2, rfl, _, hq2⟩ := h2
  clear hq1 hq2
  obtain ⟨n, hn⟩ : ∃ n, n = z1.length := ⟨_, rfl⟩
  have hn2 : n = z2.length := by omega
  rw [← hn2] at hr2 hl2 ⊢
  rw [← hn] at hr1 hl1 ⊢
  clear hlen
  replace hn := hidI hn
  replace hn2 := hidI hn2
  replace hr1 := hidI hr1
  replace hr2 := hidI hr2
  have hnn : ¬ (n : Int) < (n : Int) := by omega
  go_enter Try.func69, Try.ntmps69
  go_wp2
  go_loopw [13] (fun i wr => ∃ k : Nat, k ≤ n ∧ i = .int .i64 k ∧ Hid (wr = w) ∧ cmpL z1 z2 = cmpL (z1.drop k) (z2.drop k)) (fun i _ => n - (intOf i).toNat)
  case atStart => exact ⟨0, Nat.zero_le _, rfl, hidI rfl, rfl⟩
  case round =>
    obtain ⟨k, hk, rfl, hwr, heq⟩ := hrel
    have hwr' := hwr.out
    subst hwr'
    by_cases hlt : k < n
    · have hst := cmpL_drop z1 z2 k (by have := hn.out; omega) (by have := hn2.out; omega)
      have hx0 := hi1.getD k (by have := hn.out; omega)
      have hy0 := hi2.getD k (by have := hn2.out; omega)
      obtain ⟨x, hx⟩ : ∃ x, x = z1.getD k 0 := ⟨_, rfl⟩
      obtain ⟨y, hy⟩ : ∃ y, y = z2.getD k 0 := ⟨_, rfl⟩
      obtain ⟨b1, off1, rfl, hB1, hc1⟩ := hr1.out.at2 k (by have := hn.out; omega)
      obtain ⟨b2, off2, rfl, hB2, hc2⟩ := hr2.out.at2 k (by have := hn2.out; omega)
      rw [← hx] at hc1 hst hx0
      rw [← hy] at hc2 hst hy0
      rw [hst] at heq
      have hcall := letters_cmp wr x y hx0 hy0
      obtain ⟨o, ho⟩ : ∃ o, o = ordI x y := ⟨_, rfl⟩
      rw [← ho] at heq hcall
      have hlt2 : (k : Int) < (n : Int) := by omega
      replace hx := hidI hx
      replace hy := hidI hy
      replace ho := hidI ho
      clear hst hx0 hy0
      by_cases he : o = 0
      · rw [if_pos he] at heq
        have hne : (o != 0) = false := by rw [bne_eq_false_iff_eq]; exact he
        replace heq := hidI heq
        replace he := hidI he
        go_wp2_with fail
        refine hcall.mono ?_
        rintro e w1 ⟨rfl, rfl⟩
        go_wp2
        go_roundw
        case rel => exact ⟨k + 1, by omega, by go_num, hwr, heq.out⟩
        case measure => simp [intOf]; omega
      · rw [if_neg he] at heq
        have hne : (o != 0) = true := by rw [bne_iff_ne]; exact he
        replace heq := hidI heq
        replace he := hidI he
        go_wp2_with fail
        refine hcall.mono ?_
        rintro e w1 ⟨rfl, rfl⟩
        go_wp2
        go_ret
        exact ⟨ret_i heq.out.symm, 0, rfl⟩
    · obtain rfl : k = n := by omega
      have hz : cmpL z1 z2 = 0 := by
        rw [heq, List.drop_eq_nil_of_le (by have := hn.out; omega)]
        rfl
      replace hz := hidI hz
      clear heq
      go_wp2
      go_ret
      exact ⟨ret_i hz.out.symm, 0, rfl⟩
theorem compare_any (w : World) (B : Nat) (v1 v2 : Value) (z1 z2 : List Int) (h1 : ReadI B w v1 z1) (h2 : ReadI B w v2 z2) (hi1 : InR z1) (hi2 : InR z2) :
    Calls Try.prog 41 #[v1, v2] w (IntRet w (cmpI z1 z2)) := by
  obtain ⟨_, a1, cap1, hv1, _⟩ := id h1
  obtain ⟨_, a2, cap2, hv2, _⟩ := id h2
  have hc := cmp_int w (z1.length : Int) (z2.length : Int)
  by_cases hlen : z1.length = z2.length
  · have hz : cmpZ (z1.length : Int) (z2.length : Int) = 0 := by unfold cmpZ; rw [if_neg (by omega), if_neg (by omega)]
    have hci : cmpI z1 z2 = cmpL z1 z2 := by unfold cmpI; rw [if_neg (by omega), if_neg (by omega)]
    have hcall := cmpFunc_any w B v1 v2 z1 z2 h1 h2 hi1 hi2 hlen
    rw [hz] at hc
    rw [hv1, hv2] at hcall
    rw [hv1, hv2, hci]
    replace h1 := hidI h1
    replace h2 := hidI h2
    replace hlen := hidI hlen
    replace hz := hidI hz
    replace hci := hidI hci
    replace hv1 := hidI hv1
    replace hv2 := hidI hv2
    go_enter Try.func41, Try.ntmps41
    go_wp2_with fail
    refine hc.mono ?_
    rintro e w1 ⟨rfl, rfl⟩
    go_wp2_with fail
    refine hcall.mono ?_
    rintro e w1 ⟨rfl, n, rfl⟩
    go_wp2
    go_ret
    exact ⟨rfl, n, rfl⟩
  · have hz : cmpI z1 z2 = cmpZ (z1.length : Int) (z2.length : Int) := by
      unfold cmpI cmpZ
      by_cases h : z1.length < z2.length
      · rw [if_pos h, if_pos (by omega)]
      · rw [if_neg h, if_pos (by omega), if_neg (by omega), if_pos (by omega)]
    have hne : cmpZ (z1.length : Int) (z2.length : Int) ≠ 0 := by
      unfold cmpZ
      by_cases h : z1.length < z2.length
      · rw [if_pos (by omega)]; decide
      · rw [if_neg (by omega), if_pos (by omega)]; decide
    rw [hv1, hv2, hz]
    obtain ⟨c, hcc⟩ : ∃ c, c = cmpZ (z1.length : Int) (z2.length : Int) := ⟨_, rfl⟩
    rw [← hcc] at hc hne ⊢
    have hn : (c != 0) = true := by rw [bne_iff_ne]; exact hne
    replace h1 := hidI h1
    replace h2 := hidI h2
    replace hlen := hidI hlen
    replace hz := hidI hz
    replace hcc := hidI hcc
    replace hne := hidI hne
    replace hv1 := hidI hv1
    replace hv2 := hidI hv2
    go_enter Try.func41, Try.ntmps41
    go_wp2_with fail
    refine hc.mono ?_
    rintro e w1 ⟨rfl, rfl⟩
    go_wp2
    go_ret
    exact ⟨rfl, 0, rfl⟩
end Go.Proofs.Ythjlemcnddkjgaa
