/- EncodeHex, spec. -/
import Derived.Test.YtdacfnoemjleiaaHexE
namespace Go.Proofs.Ytdacfnoemjleiaa
open Go.RowKit
set_option linter.unusedVariables false

set_option maxHeartbeats 800000 in
theorem specHexE (s : ByteArray) (w : World) (hs : s.size ≤ 1048576) :
    Calls Try.prog 17 #[.string s] w fun e w' => e = .returned (.string ⟨(hexL s.data.toList).toArray⟩) ∧ Below w.heap.size w w' := by
  have hown0 := OwnsB.lit w
  have hb0 := (Below.refl w.heap.size w).alloc (Nat.le_refl _) (.cells #[] 5)
  replace hown0 := hid hown0
  go_enter Try.func17, Try.ntmps17
  go_wp2
  replace hown0 := hown0.out
  go_loopw [3, 4] (fun v i wr => ∃ k : Nat, k ≤ s.size ∧ i = .int .i64 k ∧ OwnsB wr w.heap.size v (hexL (s.data.toList.take k)) ∧ Below w.heap.size w wr) (fun _ i _ => s.size - (intOf i).toNat)
  case atStart => exact ⟨0, Nat.zero_le _, rfl, hown0, hb0⟩
  case round =>
    clear hown0 hb0
    obtain ⟨k, hk, rfl, hown, hb⟩ := hrel
    by_cases hlt : k < s.size
    · have hc := toNat_lt s[k]
      obtain ⟨p, hp⟩ : ∃ p, p = s[k].toNat / 16 := ⟨_, rfl⟩
      obtain ⟨q, hq⟩ : ∃ q, q = s[k].toNat % 16 := ⟨_, rfl⟩
      have hp16 : (p : Int) < 16 := by omega
      have hq16 : (q : Int) < 16 := by omega
      have hw1 : IntKind.u8.wrap ((s[k].toNat : Int) / 16) = (p : Int) := by rw [IntKind.wrap_u8]; omega
      have hw2 : (s[k].toNat : Int).tmod 16 = (q : Int) := by rw [Int.tmod_eq_emod_of_nonneg (by omega)]; omega
      have hw3 : (s[k].toNat : Int) % 16 = (q : Int) := by omega
      have hw5 : IntKind.i64.wrap (p : Int) = (p : Int) := by rw [IntKind.wrap_i64]; omega
      have hw7 : IntKind.i64.wrap (s[k].toNat : Int) = (s[k].toNat : Int) := by rw [IntKind.wrap_i64]; omega
      have hw8 : (s[k].toNat : Int).tdiv 16 = (p : Int) := by rw [Int.tdiv_eq_ediv_of_nonneg (by omega)]; omega
      have hw6 : IntKind.i64.wrap (q : Int) = (q : Int) := by rw [IntKind.wrap_i64]; omega
      have hp16n : p < 16 := by omega
      have hq16n : q < 16 := by omega
      have hw4 : IntKind.u8.wrap (q : Int) = (q : Int) := by rw [IntKind.wrap_u8]; omega
      have htk : hexL (s.data.toList.take (k + 1)) = hexL (s.data.toList.take k) ++ [hexd p, hexd q] := by
        rw [take_snoc s k hlt, hexL_snoc, hp, hq]
      have hll : (hexL (s.data.toList.take k)).length ≤ 1000000000 := by rw [hexL_length, List.length_take]; omega
      replace hp := hid hp
      replace hq := hid hq
      replace htk := hid htk
      replace hc := hid hc
      replace hll := hid hll
      go_wp2
      go_region_law (first | (refine step_push2 (w0 := wr.drew) rfl _ _ rfl w.heap.size _ (hexL (s.data.toList.take k)) (hexd p) (hexd q) _ _ rfl rfl rfl rfl rfl (by exact hown.drew) hll.out hb.size ?_; intro v' w' hown' hb') | (go_simp; go_at_call 23; ((with_reducible first | refine (l1Digit_any p _ hp16n).mono ?_ | refine (l1Digit_any q _ hq16n).mono ?_); rintro e w' ⟨rfl, rfl⟩)))
      all_goals
        go_wp2
        go_roundw
        case rel => exact ⟨k + 1, by omega, by go_num, by rw [htk.out]; exact hown', hb.drew.trans hb'⟩
        case measure => simp [intOf]; omega
    · obtain rfl : k = s.size := by omega
      have hcv := hown.conv
      rw [List.take_of_length_le (by exact Nat.le_refl _)] at hcv
      replace hown := hid hown
      go_wp2
      go_ret
      exact ⟨rfl, hb⟩
end Go.Proofs.Ytdacfnoemjleiaa
