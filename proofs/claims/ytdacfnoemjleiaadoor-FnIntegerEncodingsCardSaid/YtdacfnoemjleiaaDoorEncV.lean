/- EncodeVarint, spec and impl. -/
import Derived.Test.YtdacfnoemjleiaaDoorA
import Derived.Test.YtdacfnoemjleiaaDoorS
namespace Go.Proofs.YtdacfnoemjleiaaDoor
open Go.RowKit
set_option linter.unusedVariables false

set_option maxHeartbeats 400000 in
set_option maxRecDepth 100000 in
theorem implEncV_in (n : Nat) (w : World) (hn : n ≤ 562949953421311) :
    Calls Tryd.prog 9 #[.int .i64 n] w fun e w' => e = .returned (.string (encV n)) ∧ Below w.heap.size w w' := by
  have hL := leb_length_le 6 n (by omega)
  obtain ⟨i0, hi, hz0, hz1, hz2⟩ := info_parts info8
  have hn' : (n : Int) ≤ 562949953421311 := by omega
  go_enter Tryd.func9, Tryd.ntmps9
  go_wp2_with (at_make; refine wpList_make_own _ rfl _ _ 22 rfl w.heap.size 5 i0 (.int .u8 0) 1 Tryd.underlying22 hi hz0 hz1 .i64 .i64 _ 7 rfl rfl rfl ?c3 ?c4 ?c5 ?_)
  case c3 => rw [hz2]; omega
  case c4 => unfold maxLen; omega
  case c5 => exact Nat.le_refl _
  intro w1 hown0 hg
  have hb0 := (Below.refl w.heap.size w).grown hg (Nat.le_refl _) (by intro k hk; cases hk)
  clear hg hi hz0 hz1 hz2
  go_wp2
  go_loopw [0, 3] (fun m v wr => ∃ (q : Nat) (acc : List UInt8), Vlim q ∧ acc ++ leb q = leb n ∧ m = .int .i64 q ∧ OwnsB wr w.heap.size v acc ∧ Below w.heap.size w wr) (fun m _ _ => (intOf m).toNat)
  case atStart => exact ⟨n, [], hn, rfl, rfl, hown0, hb0⟩
  case round =>
    clear hown0 hb0
    obtain ⟨q, acc, hq, hacc, rfl, hown, hb⟩ := hrel
    have hal : acc.length ≤ 7 := by have := congrArg List.length hacc; rw [List.length_append] at this; omega
    replace hacc := hid hacc
    have hq' : q ≤ 562949953421311 := hq
    by_cases hlt : q < 128
    · go_wp2_with (at_builtin; go_must (refine wpList_push rfl _ _ rfl w.heap.size _ acc (UInt8.ofNat q) _ ?c1 rfl rfl (by exact hown) (by omega) hb.size ?_))
      case c1 => simp; omega
      intro v' w' hown' hb'
      have hcv := hown'.conv
      replace hown' := hid hown'
      clear hown
      go_wp2
      go_ret
      exact ⟨ret_str (by rw [encV_in hn, ← hacc.out, leb_lt hlt]), hb.trans hb'⟩
    · obtain ⟨b, hbe⟩ : ∃ b, b = UInt8.ofNat (128 + q % 128) := ⟨_, rfl⟩
      replace hbe := hid hbe
      go_wp2_with (at_builtin; go_must (refine wpList_push rfl _ _ rfl w.heap.size _ acc b _ ?c2 rfl rfl (by exact hown) (by omega) hb.size ?_))
      case c2 => rw [hbe.out]; simp; omega
      intro v' w' hown' hb'
      replace hown := hid hown
      replace hown' := hid hown'
      go_wp2
      go_roundw
      case rel => exact ⟨q / 128, acc ++ [b], Nat.le_trans (Nat.div_le_self _ _) hq, by rw [← hacc.out, leb_ge hlt, hbe.out, List.append_assoc]; rfl, by go_num, hown'.out, hb.trans hb'⟩
      case measure => simp [intOf]; omega
theorem implEncV_out (n : Int) (w : World) (hn : n < 0 ∨ 562949953421311 < n) :
    Calls Tryd.prog 9 #[.int .i64 n] w fun e w' => e = .returned (.string (encV n)) ∧ w = w' := by
  rw [encV_out hn]
  by_cases h : n < 0
  · clear hn
    go_enter Tryd.func9, Tryd.ntmps9
    go_wp2
    go_ret
    exact ⟨rfl, rfl⟩
  · have h2 : 562949953421311 < n := by omega
    clear hn
    go_enter Tryd.func9, Tryd.ntmps9
    go_wp2
    go_ret
    exact ⟨rfl, rfl⟩
theorem implEncV (n : Int) (w : World) :
    Calls Tryd.prog 9 #[.int .i64 n] w fun e w' => e = .returned (.string (encV n)) ∧ Below w.heap.size w w' := by
  by_cases h : n < 0 ∨ 562949953421311 < n
  · refine (implEncV_out n w h).mono ?_
    rintro e w' ⟨rfl, rfl⟩
    exact ⟨rfl, Below.refl _ _⟩
  · obtain ⟨k, rfl⟩ := Int.eq_ofNat_of_zero_le (show 0 ≤ n by omega)
    exact implEncV_in k w (by omega)
end Go.Proofs.YtdacfnoemjleiaaDoor
