/- DecodeHex, spec and impl. -/
import Derived.Test.YtdacfnoemjleiaaHexE
import Derived.Lib.OthersKept
import Derived.WalkSmall
namespace Go.Proofs.Ytdacfnoemjleiaa
open Go.RowKit
set_option linter.unusedVariables false

set_option maxHeartbeats 400000 in
theorem l1FromHex_any (c : UInt8) (w : World) :
    Calls Try.prog 24 #[.int .u8 (c.toNat : Int)] w fun e w' => e = .returned (.int .i64 (unhex c)) ∧ w = w' := by
  go_enter Try.func24, Try.ntmps24
  go_wp2
  go_loop [3] (fun i => ∃ k : Nat, k ≤ 16 ∧ i = .int .i64 k ∧ ∀ j, j < k → hexd j ≠ c) (fun i => 16 - (intOf i).toNat)
  case atStart => exact ⟨0, by omega, rfl, fun j h => absurd h (by omega)⟩
  case round =>
    obtain ⟨k, hk, rfl, hne⟩ := hrel
    replace hne := hid hne
    by_cases hlt : k < 16
    · by_cases he : hexd k = c
      · have hcm : (((hexd k).toNat : Int) == (c.toNat : Int)) = true := by rw [he]; simp
        replace he := hid he
        go_wp2_with (go_at_call 23; refine (l1Digit_any k _ hlt).mono ?_; rintro e w' ⟨rfl, rfl⟩)
        go_ret
        exact ⟨ret_int (by rw [← he.out, unhex_hexd k hlt]), rfl⟩
      · have hcm : (((hexd k).toNat : Int) == (c.toNat : Int)) = false := by
          rw [beq_eq_false_iff_ne]
          intro h2
          exact he (UInt8.toNat.inj (by omega))
        replace he := hid he
        go_wp2_with (go_at_call 23; refine (l1Digit_any k _ hlt).mono ?_; rintro e w' ⟨rfl, rfl⟩)
        go_round
        case rel =>
          refine ⟨k + 1, by omega, by go_num, fun j hj => ?_⟩
          rcases Nat.lt_or_ge j k with h2 | h2
          · exact hne.out j h2
          · rw [show j = k by omega]; exact he.out
        case measure => simp [intOf]; omega
    · go_wp2
      go_ret
      exact ⟨ret_int (unhex_none c (fun j hj => hne.out j (by omega))).symm, rfl⟩

theorem hexValue_yes (c : UInt8) (w : World) (h : isH c = true) :
    Calls Try.prog 25 #[.int .i32 (c.toNat : Int)] w fun e w' => e = .returned (.tuple #[.int .u8 (dgt c : Int), .bool true]) ∧ w = w' := by
  have hu := unhex_eq h
  unfold unhex at hu
  by_cases h1 : 48 ≤ c.toNat ∧ c.toNat ≤ 57
  · rw [if_pos h1] at hu
    have hu2 : (dgt c : Int) = (c.toNat : Int) - 48 := by omega
    obtain ⟨h3, h4⟩ := h1
    rw [hu2]
    clear hu hu2
    go_enter Try.func25, Try.ntmps25
    go_wp2
    go_ret2
    exact ⟨rfl, rfl⟩
  · rw [if_neg h1] at hu
    by_cases h2 : 97 ≤ c.toNat ∧ c.toNat ≤ 102
    · rw [if_pos h2] at hu
      have hu2 : (dgt c : Int) = (c.toNat : Int) - 97 + 10 := by omega
      obtain ⟨h3, h4⟩ := h2
      have h5 : decide ((c.toNat : Int) ≤ 57) = false := by simp; omega
      rw [hu2]
      clear hu hu2 h1
      go_enter Try.func25, Try.ntmps25
      go_wp2
      go_ret2
      exact ⟨rfl, rfl⟩
    · rw [if_neg h2] at hu
      omega
theorem hexValue_no (r : Int) (w : World) (h : ¬ (48 ≤ r ∧ r ≤ 57)) (h' : ¬ (97 ≤ r ∧ r ≤ 102)) :
    Calls Try.prog 25 #[.int .i32 r] w fun e w' => e = .returned (.tuple #[.int .u8 0, .bool false]) ∧ w = w' := by
  by_cases h1 : 48 ≤ r
  · have h2 : decide (r ≤ 57) = false := by simp; omega
    by_cases h3 : 97 ≤ r
    · have h4 : decide (r ≤ 102) = false := by simp; omega
      clear h h'
      go_enter Try.func25, Try.ntmps25
      go_wp2
      go_ret2
      exact ⟨rfl, rfl⟩
    · clear h h'
      go_enter Try.func25, Try.ntmps25
      go_wp2
      go_ret2
      exact ⟨rfl, rfl⟩
  · have h3 : ¬ 97 ≤ r := by omega
    clear h h'
    go_enter Try.func25, Try.ntmps25
    go_wp2
    go_ret2
    exact ⟨rfl, rfl⟩
theorem l1FromHex_yes (c : UInt8) (w : World) (h : isH c = true) :
    Calls Try.prog 24 #[.int .u8 (c.toNat : Int)] w fun e w' => e = .returned (.int .i64 (dgt c : Int)) ∧ w = w' := by
  rw [← unhex_eq h]; exact l1FromHex_any c w
theorem l1FromHex_no (c : UInt8) (w : World) (h : isH c = false) :
    Calls Try.prog 24 #[.int .u8 (c.toNat : Int)] w fun e w' => e = .returned (.int .i64 (-1)) ∧ w = w' := by
  rw [← unhex_not h]; exact l1FromHex_any c w
theorem isH_iff (c : UInt8) : isH c = true ↔ (48 ≤ c.toNat ∧ c.toNat ≤ 57) ∨ (97 ≤ c.toNat ∧ c.toNat ≤ 102) := by
  unfold isH unhex
  rw [decide_eq_true_iff]
  split
  · omega
  · split <;> omega

set_option maxHeartbeats 800000 in
theorem specHexD (s : ByteArray) (w : World) (hs : s.size ≤ 1048576) :
    Calls Try.prog 19 #[.string s] w fun e w' => e = .returned (.tuple #[.string ⟨(decHex s.data.toList).1.toArray⟩, .bool (decHex s.data.toList).2]) ∧ Below w.heap.size w w' := by
  obtain ⟨L, hL⟩ : ∃ L, L = s.data.toList := ⟨_, rfl⟩
  have hlen : L.length = s.size := by rw [hL]; rfl
  rw [← hL]
  obtain ⟨r, hr⟩ : ∃ r, r = decHex L := ⟨_, rfl⟩
  rw [← hr]
  have hown0 := OwnsB.lit w
  have hb0 := (Below.refl w.heap.size w).alloc (Nat.le_refl _) (.cells #[] 5)
  replace hown0 := hid hown0
  by_cases hev : s.size % 2 = 0
  · have hmod : ((s.size : Int) % 2 == 1) = false := by rw [beq_eq_false_iff_ne]; omega
    replace hev := hid hev
    replace hL := hid hL
    replace hr := hid hr
    replace hlen := hid hlen
    go_enter Try.func19, Try.ntmps19
    go_wp2
    replace hown0 := hown0.out
    go_loopw [4, 5, 6, 7] (fun v i _ _ wr => ∃ k : Nat, k % 2 = 0 ∧ k ≤ s.size ∧ i = .int .i64 k ∧ OwnsB wr w.heap.size v (decH (L.take k)) ∧ (L.take k).all isH = true ∧ Below w.heap.size w wr) (fun _ i _ _ _ => s.size - (intOf i).toNat)
    case atStart => exact ⟨0, rfl, Nat.zero_le _, rfl, hown0, rfl, hb0⟩
    case round =>
      clear hown0 hb0
      obtain ⟨k, hk2, hks, rfl, hown, hall, hb⟩ := hrel
      by_cases hlt : k < s.size
      · have hlt2 : k + 1 < s.size := by have := hev.out; omega
        have hl2 : k + 1 < L.length := by rw [hlen.out]; exact hlt2
        have e1 : L[k] = s[k] := by have h := hL.out; subst h; rfl
        have e2 : L[k + 1] = s[k + 1] := by have h := hL.out; subst h; rfl
        have htt := take_two L k hl2
        rw [e1, e2] at htt
        have hkl : (L.take k).length = k := by rw [List.length_take]; omega
        have hdl : (decH (L.take k)).length ≤ 1000000000 := by
          have : ∀ l : List UInt8, (decH l).length ≤ l.length := by
            intro l
            induction l using decH.induct with
            | case1 a b t ih => simp [decH]; omega
            | case2 l h => unfold decH; split <;> simp_all
          have := this (L.take k)
          omega
        have hd1 := dgt_lt s[k]
        have hd2 := dgt_lt s[k + 1]
        obtain ⟨z, hz⟩ : ∃ z, z = UInt8.ofNat (16 * dgt s[k] + dgt s[k + 1]) := ⟨_, rfl⟩
        have hbp := byte_pair s[k] s[k + 1]
        rw [← hz] at hbp
        replace hz := hid hz
        have hbad1 : isH s[k] = false → r = ([], false) := fun h => by rw [hr.out]; exact decHex_bad (i := k) (by omega) (by rw [e1]; exact h)
        have hbad2 : isH s[k + 1] = false → r = ([], false) := fun h => by rw [hr.out]; exact decHex_bad (i := k + 1) (by omega) (by rw [e2]; exact h)
        replace e1 := hid e1
        replace e2 := hid e2
        replace htt := hid htt
        replace hkl := hid hkl
        replace hbp := hid hbp
        replace hk2 := hid hk2
        replace hall := hid hall
        replace hbad1 := hid hbad1
        replace hbad2 := hid hbad2
        replace hdl := hid hdl
        replace hl2 := hid hl2
        cases hi1 : isH s[k] with
        | false =>
          have hf := hid (hbad1.out hi1)
          replace hi1 := hid hi1
          go_wp2_with (first | (go_at_call 24; ((with_reducible refine (l1FromHex_no s[k] _ hi1.out).mono ?_); rintro e w' ⟨rfl, rfl⟩)) | (go_at_call 24; ((with_reducible refine (l1FromHex_any s[k + 1] _).mono ?_); rintro e w' ⟨rfl, rfl⟩)))
          go_ret2
          exact ⟨ret_sb (by rw [hf.out]) (by rw [hf.out]), hb⟩
        | true =>
          cases hi2 : isH s[k + 1] with
          | false =>
            have hf := hid (hbad2.out hi2)
            replace hi1 := hid hi1
            replace hi2 := hid hi2
            go_wp2_with (first | (go_at_call 24; ((with_reducible refine (l1FromHex_yes s[k] _ hi1.out).mono ?_); rintro e w' ⟨rfl, rfl⟩)) | (go_at_call 24; ((with_reducible refine (l1FromHex_no s[k + 1] _ hi2.out).mono ?_); rintro e w' ⟨rfl, rfl⟩)))
            go_ret2
            exact ⟨ret_sb (by rw [hf.out]) (by rw [hf.out]), hb⟩
          | true =>
            replace hi1 := hid hi1
            replace hi2 := hid hi2
            go_wp2_with (first | (go_at_call 24; ((with_reducible refine (l1FromHex_yes s[k] _ hi1.out).mono ?_); rintro e w' ⟨rfl, rfl⟩)) | (go_at_call 24; ((with_reducible refine (l1FromHex_yes s[k + 1] _ hi2.out).mono ?_); rintro e w' ⟨rfl, rfl⟩)) | (at_builtin; go_must (refine wpList_push rfl _ _ rfl w.heap.size _ (decH (L.take k)) z _ ?c1 rfl rfl (by exact hown) hdl.out hb.size ?_)))
            case c1 => rw [hbp.out]; omega
            intro v' w' hown' hb'
            replace hown := hid hown
            replace hown' := hid hown'
            go_wp2
            go_roundw
            case rel => exact ⟨k + 2, by have := hk2.out; omega, by omega, by go_num, by rw [htt.out, decH_snoc2 _ _ _ (by rw [hkl.out]; exact hk2.out), ← hz.out]; exact hown'.out, by rw [htt.out]; exact all_snoc2 hall.out hi1.out hi2.out, hb.trans hb'⟩
            case measure => simp [intOf]; omega
      · have hke : k = s.size := by omega
        have htk : L.take k = L := List.take_of_length_le (by rw [hlen.out]; omega)
        rw [htk] at hown hall
        have hf := decHex_yes (by rw [hlen.out]; exact hev.out) hall
        have hcv := hown.conv
        replace hown := hid hown
        replace hall := hid hall
        replace hf := hid hf
        replace htk := hid htk
        replace hke := hid hke
        go_wp2
        go_ret2
        exact ⟨ret_sb (by rw [hr.out, hf.out]) (by rw [hr.out, hf.out]), hb⟩
  · have hmod : ((s.size : Int) % 2 == 1) = true := by simp; omega
    have hodd := decHex_odd (l := L) (by omega)
    replace hL := hid hL
    replace hlen := hid hlen
    replace hodd := hid hodd
    replace hr := hid hr
    go_enter Try.func19, Try.ntmps19
    go_wp2
    go_ret2
    exact ⟨ret_sb (by rw [hr.out, hodd.out]) (by rw [hr.out, hodd.out]), hb0⟩
end Go.Proofs.Ytdacfnoemjleiaa
