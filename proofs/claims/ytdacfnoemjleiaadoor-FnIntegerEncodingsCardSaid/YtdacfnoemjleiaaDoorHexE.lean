/- EncodeHex, spec and impl. -/
import Derived.Test.YtdacfnoemjleiaaDoorS
import Derived.Deep.RegionWith
import Derived.Deep.RegionLaw
namespace Go.Proofs.YtdacfnoemjleiaaDoor
open Go.RowKit
set_option linter.unusedVariables false

set_option maxHeartbeats 800000 in
theorem implHexE (s : ByteArray) (w : World) (hs : s.size ≤ 1048576) :
    Calls Tryd.prog 15 #[.string s] w fun e w' => e = .returned (.string ⟨(hexL s.data.toList).toArray⟩) ∧ Below w.heap.size w w' := by
  obtain ⟨i0, hi, hz0, hz1, hz2⟩ := info_parts info8
  go_enter Tryd.func15, Tryd.ntmps15
  go_wp2_with (at_make; refine wpList_make_own _ rfl _ _ 22 rfl w.heap.size 5 i0 (.int .u8 0) 1 Tryd.underlying22 hi hz0 hz1 .i64 .i64 _ (2 * s.size) rfl rfl ?c2 ?c3 ?c4 ?c5 ?_)
  case c2 => omega
  case c3 => rw [hz2]; omega
  case c4 => unfold maxLen; omega
  case c5 => exact Nat.le_refl _
  intro w1 hown0 hg
  have hb0 := (Below.refl w.heap.size w).grown hg (Nat.le_refl _) (by intro k hk; cases hk)
  clear hg hi hz0 hz1 hz2
  go_wp2
  go_loopw [3, 4, 11] (fun v _ i wr => ∃ k : Nat, k ≤ s.size ∧ i = .int .i64 k ∧ OwnsB wr w.heap.size v (hexL (s.data.toList.take k)) ∧ Below w.heap.size w wr) (fun _ _ i _ => s.size - (intOf i).toNat)
  case atStart => exact ⟨0, Nat.zero_le _, rfl, hown0, hb0⟩
  case round =>
    clear hown0 hb0
    obtain ⟨k, hk, rfl, hown, hb⟩ := hrel
    by_cases hlt : k < s.size
    · have hc := toNat_lt s[k]
      obtain ⟨p, hp⟩ : ∃ p, p = s[k].toNat / 16 := ⟨_, rfl⟩
      obtain ⟨q, hq⟩ : ∃ q, q = s[k].toNat % 16 := ⟨_, rfl⟩
      have hp16 : (p : Int) < 16 := by omega
      have hq16 : (q : Int) < 16 := by omega
      have hw1 : IntKind.u8.wrap ((s[k].toNat : Int) / 16) = (p : Int) := by rw [IntKind.wrap_u8]; omega
      have hw2 : (s[k].toNat : Int).tmod 16 = (q : Int) := by rw [Int.tmod_eq_emod_of_nonneg (by omega)]; omega
      have hw3 : (s[k].toNat : Int) % 16 = (q : Int) := by omega
      have hw4 : IntKind.u8.wrap (q : Int) = (q : Int) := by rw [IntKind.wrap_u8]; omega
      have htk : hexL (s.data.toList.take (k + 1)) = hexL (s.data.toList.take k) ++ [hexd p, hexd q] := by
        rw [take_snoc s k hlt, hexL_snoc, hp, hq]
      have hll : (hexL (s.data.toList.take k)).length ≤ 1000000000 := by rw [hexL_length, List.length_take]; omega
      replace hp := hid hp
      replace hq := hid hq
      replace htk := hid htk
      replace hc := hid hc
      replace hll := hid hll
      go_wp2
      go_region_law (first | (refine step_push2 (w0 := wr.drew) rfl _ _ rfl w.heap.size _ (hexL (s.data.toList.take k)) (hexd p) (hexd q) _ _ rfl (by rw [hex_at]) (by rw [hex_at]) rfl rfl (by exact hown.drew) hll.out hb.size ?_; intro v' w' hown' hb'))
      all_goals
        go_wp2
        go_roundw
        case rel => exact ⟨k + 1, by omega, by go_num, by rw [htk.out]; exact hown', hb.drew.trans hb'⟩
        case measure => simp [intOf]; omega
    · obtain rfl : k = s.size := by omega
      have hcv := hown.conv
      rw [List.take_of_length_le (by exact Nat.le_refl _)] at hcv
      replace hown := hid hown
      go_wp2
      go_ret
      exact ⟨rfl, hb⟩
end Go.Proofs.YtdacfnoemjleiaaDoor
