/- DecodeFixed, spec and impl. -/
import Derived.Test.YtdacfnoemjleiaaDoorA
import Derived.Test.YtdacfnoemjleiaaDoorM
namespace Go.Proofs.YtdacfnoemjleiaaDoor
open Go.RowKit
set_option linter.unusedVariables false

set_option maxHeartbeats 400000 in
theorem implDecF_yes (s : ByteArray) (x : Nat) (w : World) (h1 : 1 ≤ x) (h2 : x ≤ 7) (h3 : x ≤ s.size) (hs : s.size ≤ 1048576) :
    Calls Tryd.prog 13 #[.string s, .int .i64 x] w fun e w' => e = .returned (.tuple #[.int .i64 (dec256 (s.data.toList.take x)), .bool true]) ∧ w = w' := by
  go_enter Tryd.func13, Tryd.ntmps13
  go_wp2_with (go_at_call 25; refine (fixedW_yes _ _ (by omega) (by omega)).mono ?_; rintro e w' ⟨rfl, rfl⟩)
  go_loop [6, 7, 18] (fun n _ i => ∃ k : Nat, k ≤ x ∧ i = .int .i64 k ∧ n = .int .i64 (dec256 (s.data.toList.take k))) (fun _ _ i => x - (intOf i).toNat)
  case atStart => exact ⟨0, Nat.zero_le _, rfl, rfl⟩
  case round =>
    obtain ⟨k, hk, rfl, rfl⟩ := hrel
    by_cases hlt : k < x
    · have hl : (s.data.toList.take k).length ≤ 6 := by have := List.length_take_le k s.data.toList; omega
      have hd := dec256_lt6 _ hl
      have hks : k < s.size := by omega
      have hb := toNat_lt s[k]
      have HS : Hid (dec256 (s.data.toList.take (k + 1)) = dec256 (s.data.toList.take k) * 256 + s[k].toNat) := by rw [take_snoc s k hks]; exact dec256_snoc _ _
      have HO : Hid (bits .or .i64 ((dec256 (s.data.toList.take k) : Int) * 256) (s[k].toNat : Int) = ((dec256 (s.data.toList.take k) * 256 + s[k].toNat : Nat) : Int)) := i64_or8 _ _ hd hb
      go_wp2
      go_round
      case rel => exact ⟨k + 1, by omega, by go_num, by rw [HS.out, HO.out]⟩
      case measure => simp [intOf]; omega
    · go_wp2
      go_ret2
      have : k = x := by omega
      subst this
      exact ⟨rfl, rfl⟩
theorem implDecF_no (s : ByteArray) (x : Int) (w : World) (h : (x < 1 ∨ 7 < x) ∨ (s.size : Int) < x) (hs : s.size ≤ 1048576) :
    Calls Tryd.prog 13 #[.string s, .int .i64 x] w fun e w' => e = .returned (.tuple #[.int .i64 0, .bool false]) ∧ w = w' := by
  by_cases hr : x < 1 ∨ 7 < x
  · clear h
    go_enter Tryd.func13, Tryd.ntmps13
    go_wp2_with (go_at_call 25; refine (fixedW_no _ _ hr).mono ?_; rintro e w' ⟨rfl, rfl⟩)
    go_ret2
    exact ⟨rfl, rfl⟩
  · have h3 : (s.size : Int) < x := by omega
    clear h
    go_enter Tryd.func13, Tryd.ntmps13
    go_wp2_with (go_at_call 25; refine (fixedW_yes _ _ (by omega) (by omega)).mono ?_; rintro e w' ⟨rfl, rfl⟩)
    go_ret2
    exact ⟨rfl, rfl⟩
end Go.Proofs.YtdacfnoemjleiaaDoor
