/- FormatInt, spec and impl. -/
import Derived.Test.YtpjlamnjiilgbaaDoorS
import Derived.Test.YtpjlamnjiilgbaaDoorMI
import Derived.Test.YtpjlamnjiilgbaaDoorShelf
import Derived.Lib.AppendIntMem
namespace Go.Proofs.YtpjlamnjiilgbaaDoor
open Go.RowKit
set_option linter.unusedVariables false
set_option maxRecDepth 100000

theorem implFmt (n : Int) (h0 : -9223372036854775808 ≤ n) (h1 : n ≤ 9223372036854775807) (w : World) (htab : Lib.TabIs Tryd.prog w "internal/strconv.uint64pow10" .u64 Lib.pow10Tab) :
    Calls Tryd.prog 9 #[.int .i64 n] w fun e w' => e = .returned (.string (fmtB n)) ∧ Below w.heap.size w w' := by
  go_enter Tryd.func9, Tryd.ntmps9
  go_wp2_with fail
  refine (Tryd.strconv_Itoa n h0 h1 _ htab).mono ?_
  rintro e w' ⟨rfl, k, os, rfl⟩
  have hb := Lib.below_grow w.heap.size w (Nat.le_refl _) k os
  go_wp2_with fail
  go_ret
  exact ⟨rfl, hb⟩

theorem specFmt_zero (w : World) :
    Calls Tryd.prog 8 #[.int .i64 0] w fun e w' => e = .returned (.string (fmtB 0)) ∧ Below w.heap.size w w' := by
  go_enter Tryd.func8, Tryd.ntmps8
  go_wp2
  go_ret
  exact ⟨ret_str (by unfold fmtB; rw [itoa_zero]), Below.refl _ _⟩

set_option maxHeartbeats 800000 in
theorem specFmt_pos (u : Nat) (hu1 : 1 ≤ u) (hu2 : u ≤ 9223372036854775807) (w : World) :
    Calls Tryd.prog 8 #[.int .i64 u] w fun e w' => e = .returned (.string (fmtB u)) ∧ Below w.heap.size w w' := by
  have hz : ((u : Int) == 0) = false := by rw [beq_eq_false_iff_ne]; omega
  have hneg : decide ((u : Int) < 0) = false := by simp
  go_enter Tryd.func8, Tryd.ntmps8
  go_wp2
  go_loopw [0, 3, 5] (fun m o _ wr => ∃ (q : Nat) (acc : List UInt8), q ≤ u ∧ m = .int .i64 q ∧ o = .string ⟨acc.toArray⟩ ∧ Rest u q acc ∧ Below w.heap.size w wr) (fun m _ _ _ => (intOf m).toNat)
  case atStart => exact ⟨u, [], Nat.le_refl _, rfl, rfl, Rest.start hu1, Below.refl _ _⟩
  case round =>
    obtain ⟨q, acc, hq, rfl, rfl, hr, hb⟩ := hrel
    have hal := hr.length (by omega)
    by_cases hq1 : 1 ≤ q
    · have hne : ((q : Int) != 0) = true := by rw [bne_iff_ne]; omega
      have hcv := conv_one wr (48 + (q : Int) % 10) (UInt8.ofNat (48 + q % 10)) (by simp; omega)
      have hst := hr.step hq1
      obtain ⟨d, hd⟩ : ∃ d, d = UInt8.ofNat (48 + q % 10) := ⟨_, rfl⟩
      rw [← hd] at hcv hst
      clear hr hd
      replace hst := hid hst
      go_wp2
      go_roundw
      case rel => exact ⟨q / 10, d :: acc, by omega, by go_num, by rw [str_cons], hst.out, hb.alloc hb.size _⟩
      case measure => simp [intOf]; omega
    · obtain rfl : q = 0 := by omega
      have hacc := hid (hr.1 rfl)
      clear hr
      go_wp2
      go_ret
      exact ⟨ret_str (by unfold fmtB; rw [itoa_pos (by omega), hacc.out]; simp), hb⟩

set_option maxHeartbeats 800000 in
theorem specFmt_neg (u : Nat) (hu1 : 1 ≤ u) (hu2 : u ≤ 9223372036854775808) (n : Int) (hn : n = -(u : Int)) (w : World) :
    Calls Tryd.prog 8 #[.int .i64 n] w fun e w' => e = .returned (.string (fmtB n)) ∧ Below w.heap.size w w' := by
  have hz : (n == 0) = false := by rw [beq_eq_false_iff_ne]; omega
  have hneg : n < 0 := by omega
  have hfb : fmtB n = ⟨(45 :: Lib.decDigits u).toArray⟩ := by
    unfold fmtB
    rw [itoa_neg' hneg, show n.natAbs = u by omega]
  replace hfb := hid hfb
  replace hn := hid hn
  go_enter Tryd.func8, Tryd.ntmps8
  go_wp2
  go_loopw [0, 3, 5] (fun m o _ wr => ∃ (x : Int) (q : Nat) (acc : List UInt8), x = -(q : Int) ∧ q ≤ u ∧ m = .int .i64 x ∧ o = .string ⟨acc.toArray⟩ ∧ Rest u q acc ∧ Below w.heap.size w wr) (fun m _ _ _ => (intOf m).natAbs)
  case atStart => exact ⟨n, u, [], hn.out, Nat.le_refl _, rfl, rfl, Rest.start hu1, Below.refl _ _⟩
  case round =>
    obtain ⟨x, q, acc, hx, hq, rfl, rfl, hr, hb⟩ := hrel
    have hal := hr.length hu2
    have hx0 : x ≤ 0 := by omega
    have hx1 : -9223372036854775808 ≤ x := by omega
    by_cases hq1 : 1 ≤ q
    · have hne : (x != 0) = true := by rw [bne_iff_ne]; omega
      obtain ⟨r, hr'⟩ : ∃ r : Nat, r = q % 10 := ⟨_, rfl⟩
      obtain ⟨y, hy⟩ : ∃ y : Int, y = -((q / 10 : Nat) : Int) := ⟨_, rfl⟩
      have hm : x.tmod 10 = -(r : Int) := by rw [hx, Int.neg_tmod, Int.tmod_eq_emod_of_nonneg (by omega)]; omega
      have hdv : x.tdiv 10 = y := by rw [hx, Int.neg_tdiv, Int.tdiv_eq_ediv_of_nonneg (by omega)]; omega
      have hy0 : y ≤ 0 := by omega
      have hy1 : -9223372036854775808 ≤ y := by omega
      have hyx : y.natAbs < x.natAbs := by omega
      have hr9 : r ≤ 9 := by omega
      have hcv := conv_one wr (48 + (r : Int)) (UInt8.ofNat (48 + q % 10)) (by simp; omega)
      have hst := hr.step hq1
      obtain ⟨d, hd⟩ : ∃ d, d = UInt8.ofNat (48 + q % 10) := ⟨_, rfl⟩
      rw [← hd] at hcv hst
      clear hr hd
      replace hst := hid hst
      replace hx := hid hx
      replace hy := hid hy
      replace hr' := hid hr'
      replace hyx := hid hyx
      by_cases hr0 : 1 ≤ r
      · go_wp2
        go_roundw
        case rel => exact ⟨y, q / 10, d :: acc, hy.out, by omega, rfl, by rw [str_cons], hst.out, hb.alloc hb.size _⟩
        case measure => exact hyx.out
      · obtain rfl : r = 0 := by omega
        have hm0 : x.tmod 10 = 0 := by rw [hm]; rfl
        have hcv0 : (convert 30 9 (.slice (some ⟨wr.heap.size, 0, none⟩) 1 1)).run Tryd.prog (wr.alloc (.cells #[.int .u8 48] 5)) = .ok (.string ⟨#[d]⟩) (wr.alloc (.cells #[.int .u8 48] 5)) := by simpa using hcv
        clear hm hcv
        go_wp2
        go_roundw
        case rel => exact ⟨y, q / 10, d :: acc, hy.out, by omega, rfl, by rw [str_cons], hst.out, hb.alloc hb.size _⟩
        case measure => exact hyx.out
    · obtain rfl : q = 0 := by omega
      obtain rfl : x = 0 := by omega
      have hacc := hid (hr.1 rfl)
      clear hr hx0 hx1 hx hq1
      go_wp2
      go_ret
      exact ⟨ret_str (by rw [str_cons, hfb.out, hacc.out]), hb⟩
theorem specFmt (n : Int) (h0 : -9223372036854775808 ≤ n) (h1 : n ≤ 9223372036854775807) (w : World) :
    Calls Tryd.prog 8 #[.int .i64 n] w fun e w' => e = .returned (.string (fmtB n)) ∧ Below w.heap.size w w' := by
  rcases Int.lt_trichotomy n 0 with h | rfl | h
  · exact specFmt_neg n.natAbs (by omega) (by omega) n (by omega) w
  · exact specFmt_zero w
  · obtain ⟨u, rfl⟩ := Int.eq_ofNat_of_zero_le (show 0 ≤ n by omega)
    exact specFmt_pos u (by omega) (by omega) w
end Go.Proofs.YtpjlamnjiilgbaaDoor
