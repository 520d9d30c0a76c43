/- EncodeFixed, spec and impl. -/
import Derived.Test.YtdacfnoemjleiaaDoorA
import Derived.Test.YtdacfnoemjleiaaDoorS
namespace Go.Proofs.YtdacfnoemjleiaaDoor
open Go.RowKit
set_option linter.unusedVariables false

set_option maxHeartbeats 400000 in
theorem specEncF_yes (n x : Nat) (w : World) (h1 : 1 ≤ x) (h2 : x ≤ 7) (hn : n < 9223372036854775808) :
    Calls Tryd.prog 14 #[.int .i64 n, .int .i64 x] w fun e w' => e = .returned (.string (encF n x)) ∧ Below w.heap.size w w' := by
  go_enter Tryd.func14, Tryd.ntmps14
  go_wp2_with (go_at_call 26; refine (l1In_yes _ _ _ _ (by omega) (by omega)).mono ?_; rintro e w' ⟨rfl, rfl⟩)
  go_loopw [0, 5, 6] (fun m o i wr => ∃ k q : Nat, k ≤ x ∧ q = n / 256 ^ k ∧ i = .int .i64 k ∧ m = .int .i64 q ∧ o = .string ⟨(low n k).toArray⟩ ∧ Below w.heap.size w wr) (fun _ _ i _ => x - (intOf i).toNat)
  case atStart => exact ⟨0, n, Nat.zero_le _, by simp, rfl, rfl, rfl, Below.refl _ _⟩
  case round =>
    obtain ⟨k, q, hk, hq, rfl, rfl, rfl, hb⟩ := hrel
    have hle : q ≤ n := hq ▸ Nat.div_le_self _ _
    replace hq := hid hq
    by_cases hlt : k < x
    · have hcv := conv_one wr ((q : Int) % 256) (UInt8.ofNat q) (by simp)
      have hll : (low n k).length ≤ 7 := by rw [low_length]; omega
      go_wp2
      go_roundw
      case rel =>
        have hq' := hq.out
        refine ⟨k + 1, q / 256, by omega, by rw [hq', div_pow_succ], by go_num, by go_num, ?_, hb.alloc hb.size _⟩
        rw [str_cons, hq']
        rfl
      case measure => simp [intOf]; omega
    · obtain rfl : k = x := by omega
      by_cases hz : q = 0
      · have hz0 : n / 256 ^ k = 0 := by rw [← hq.out]; exact hz
        replace hz0 := hid hz0
        go_wp2
        go_ret
        exact ⟨ret_str (encF_fits hz0.out).symm, hb⟩
      · have hz0 : ¬ n / 256 ^ k = 0 := by rw [← hq.out]; exact hz
        replace hz0 := hid hz0
        have hz1 : 0 < q := by omega
        go_wp2
        go_ret
        exact ⟨ret_str (encF_not hz0.out).symm, hb⟩
set_option maxHeartbeats 400000 in
theorem implEncF_fits (n x : Nat) (w : World) (h1 : 1 ≤ x) (h2 : x ≤ 7) (hn : n < 9223372036854775808) (hf : n / 256 ^ x = 0) :
    Calls Tryd.prog 12 #[.int .i64 n, .int .i64 x] w fun e w' => e = .returned (.string (encF n x)) ∧ Below w.heap.size w w' := by
  obtain ⟨i0, hi, hz0, hz1, hz2⟩ := info_parts info8
  have hs : ((n : Int) / 2 ^ (8 * x) != 0) = false := by rw [shift_nat, hf]; rfl
  replace hf := hid hf
  go_enter Tryd.func12, Tryd.ntmps12
  go_wp2_with (first | (go_at_call 25; refine (fixedW_yes _ _ (by omega) (by omega)).mono ?_; rintro e w' ⟨rfl, rfl⟩) | (at_make; refine wpList_make_full _ rfl _ _ 22 rfl w.heap.size 5 i0 (.int .u8 0) 1 Tryd.underlying22 hi hz0 hz1 .i64 .i64 _ _ x rfl rfl rfl rfl ?c1 ?c2 ?c3 ?_))
  case c1 => rw [hz2]; omega
  case c2 => unfold maxLen; omega
  case c3 => exact Nat.le_refl _
  intro w1 hown hg
  rw [made_bytes, ← pad_zero n] at hown
  have hb := (Below.refl w.heap.size w).grown hg (Nat.le_refl _) (by intro k hk; cases hk)
  clear hg
  replace hi := hid hi
  replace hz0 := hid hz0
  replace hz1 := hid hz1
  replace hz2 := hid hz2
  go_wp2
  go_loopw [6, 24] (fun _ i wr => ∃ k : Nat, k ≤ x ∧ i = .int .i64 k ∧ wr.ownsRow w.heap.size 5 1 (.slice (some ⟨w.heap.size, 0, none⟩) x x) x ((pad n x k).map bv) ∧ Below w.heap.size w wr) (fun _ i _ => x - (intOf i).toNat)
  case atStart => exact ⟨0, Nat.zero_le _, rfl, hown, hb⟩
  case round =>
    clear hown hb
    obtain ⟨k, hk, rfl, hown, hb⟩ := hrel
    by_cases hlt : k < x
    · have hcell : ∃ v, wr.cell? ⟨w.heap.size, x - 1 - k, none⟩ = some v := by
        rw [hown.cellAt _ (by omega)]
        exact ⟨_, List.getElem?_eq_getElem (by rw [List.length_map, pad_length _ _ _ hk]; omega)⟩
      obtain ⟨v, hcell⟩ := hcell
      have hfr := hown.frozenAt (x - 1 - k)
      have hst := hid (hown.stored (x - 1 - k) (bv (UInt8.ofNat (n / 256 ^ k))))
      replace hown := hid hown
      go_wp2
      go_roundw
      case rel =>
        have r := hst.out
        refine ⟨k + 1, by omega, by go_num, ?_, hb.setCell (by simp) _⟩
        rw [bv_shift, ← pad_step n x k hlt, List.map_set]
        exact r.1
      case measure => simp [intOf]; omega
    · obtain rfl : k = x := by omega
      have hcv := conv_own (bs := pad n k k) (by rw [pad_length _ _ _ hk]; exact hown)
      rw [pad_full] at hcv
      replace hown := hid hown
      go_wp2
      go_ret
      exact ⟨ret_str (encF_fits hf.out).symm, hb⟩
theorem implEncF_not (n x : Nat) (w : World) (h1 : 1 ≤ x) (h2 : x ≤ 7) (hn : n < 9223372036854775808) (hf : ¬ n / 256 ^ x = 0) :
    Calls Tryd.prog 12 #[.int .i64 n, .int .i64 x] w fun e w' => e = .returned (.string (encF n x)) ∧ Below w.heap.size w w' := by
  have hs : ((n : Int) / 2 ^ (8 * x) != 0) = true := by rw [shift_nat, bne_iff_ne]; omega
  replace hf := hid hf
  go_enter Tryd.func12, Tryd.ntmps12
  go_wp2_with (go_at_call 25; refine (fixedW_yes _ _ (by omega) (by omega)).mono ?_; rintro e w' ⟨rfl, rfl⟩)
  go_ret
  exact ⟨ret_str (encF_not hf.out).symm, Below.refl _ _⟩
theorem implEncF_yes (n x : Nat) (w : World) (h1 : 1 ≤ x) (h2 : x ≤ 7) (hn : n < 9223372036854775808) :
    Calls Tryd.prog 12 #[.int .i64 n, .int .i64 x] w fun e w' => e = .returned (.string (encF n x)) ∧ Below w.heap.size w w' := by
  by_cases hf : n / 256 ^ x = 0
  · exact implEncF_fits n x w h1 h2 hn hf
  · exact implEncF_not n x w h1 h2 hn hf
theorem implEncF_no (n x : Int) (w : World) (h : (x < 1 ∨ 7 < x) ∨ n < 0) :
    Calls Tryd.prog 12 #[.int .i64 n, .int .i64 x] w fun e w' => e = .returned (.string ⟨#[]⟩) ∧ w = w' := by
  by_cases hr : x < 1 ∨ 7 < x
  · clear h
    go_enter Tryd.func12, Tryd.ntmps12
    go_wp2_with (go_at_call 25; refine (fixedW_no _ _ hr).mono ?_; rintro e w' ⟨rfl, rfl⟩)
    go_ret
    exact ⟨rfl, rfl⟩
  · have h3 : n < 0 := by omega
    clear h
    go_enter Tryd.func12, Tryd.ntmps12
    go_wp2_with (go_at_call 25; refine (fixedW_yes _ _ (by omega) (by omega)).mono ?_; rintro e w' ⟨rfl, rfl⟩)
    go_ret
    exact ⟨rfl, rfl⟩
theorem specEncF_no (n x : Int) (w : World) (h : (x < 1 ∨ 7 < x) ∨ n < 0) :
    Calls Tryd.prog 14 #[.int .i64 n, .int .i64 x] w fun e w' => e = .returned (.string ⟨#[]⟩) ∧ w = w' := by
  by_cases hr : x < 1 ∨ 7 < x
  · clear h
    go_enter Tryd.func14, Tryd.ntmps14
    go_wp2_with (go_at_call 26; refine (l1In_no _ _ _ _ hr).mono ?_; rintro e w' ⟨rfl, rfl⟩)
    go_ret
    exact ⟨rfl, rfl⟩
  · have h3 : n < 0 := by omega
    clear h
    go_enter Tryd.func14, Tryd.ntmps14
    go_wp2_with (go_at_call 26; refine (l1In_yes _ _ _ _ (by omega) (by omega)).mono ?_; rintro e w' ⟨rfl, rfl⟩)
    go_ret
    exact ⟨rfl, rfl⟩
end Go.Proofs.YtdacfnoemjleiaaDoor
