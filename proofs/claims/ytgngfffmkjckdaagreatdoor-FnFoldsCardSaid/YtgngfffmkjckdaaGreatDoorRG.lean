/- Lists of words, the model: TotalLength, EqualWordLists, AreWords (tools/sb.py). areInverse by itself. Words, the program: isRank, isLetter. Words, the program: IsWord. Lists of words, the program: TotalLength, EqualWordLists, AreWords. -/
import Derived.Test.YtgngfffmkjckdaaGreatDoorRE
import Derived.Test.YtgngfffmkjckdaaGreatDoorRF
import Derived.Test.YtgngfffmkjckdaaGreatDoorQB
import Derived.Test.YtgngfffmkjckdaaGreatDoorQA
import Derived.Test.YtgngfffmkjckdaaGreatDoorQD
import Derived.Test.YtgngfffmkjckdaaGreatDoorRows
import Derived.WalkKit
import Derived.Deep.Cut
namespace Go.Proofs.YtgngfffmkjckdaaGreatDoor
open Go.RowKit
set_option linter.unusedVariables false
set_option linter.unusedSimpArgs false

/-- What a function leaves that hands back an int and writes nothing. -/
def TotRet (w : World) (n : Int) (e : Ending) (w' : World) : Prop := e = .returned (.int .i64 n) ∧ ∃ m, w' = w.drewN m
theorem LwInt.of_drawn {w w' : World} {n : Int} {e : Ending} (h : TotRet w n e w') : LwInt w n e w' := by
  obtain ⟨he, n, hw⟩ := h
  exact ⟨he, by rw [hw]; exact below_dn (Below.refl _ _) n⟩
/-- Go's sum of the lengths. -/
abbrev totL (zss : List (List Int)) : Nat := sumN (zss.map List.length)
theorem totL_take {zss : List (List Int)} {k : Nat} (h : k < zss.length) : sumN ((zss.map List.length).take (k + 1)) = sumN ((zss.map List.length).take k) + (zss.getD k []).length := by
  rw [sumN_take _ _ (by rw [List.length_map]; exact h), getD_map_len]
set_option maxHeartbeats 1600000 in
theorem specTotal (w : World) (B : Nat) (v : Value) (zss : List (List Int)) (h : ReadSS B w v zss) (hs : totL zss ≤ 1000000000) :
    Calls Tryz.prog 89 #[v] w (TotRet w (totL zss : Nat)) := by
  have hs' : sumN (zss.map List.length) ≤ 1000000000 := hs
  have h' := h
  obtain ⟨hl, a, cap, rfl, _, _⟩ := h'
  obtain ⟨n, hn⟩ : ∃ n, n = zss.length := ⟨_, rfl⟩
  rw [← hn] at hl h
  replace hn := hidI hn
  replace h := hidI h
  go_enter Tryz.func89, Tryz.ntmps89
  rw [← hn.out]
  go_wp2
  go_loopg [3, 4] n (fun g a i wr => ∃ k m : Nat, k + g = n ∧ i = .int .i64 k ∧ a = .int .i64 (sumN ((zss.map List.length).take k) : Nat) ∧ Hid (wr = w.drewN m))
  case atStart => exact ⟨0, 0, by omega, rfl, by simp [sumN], hidI rfl⟩
  case round =>
    obtain ⟨k, m, hk, rfl, rfl, hw⟩ := hrel
    by_cases hlt : k < n
    · have hki : (k : Int) < (n : Int) := by omega
      obtain ⟨b, off, u, rfl, hb, c, r⟩ := h.out.at_ k (by have := hn.out; omega)
      have hst := totL_take (zss := zss) (k := k) (by have := hn.out; omega)
      have hsl := sumN_le (zss.map List.length) (k + 1)
      obtain ⟨_, ai, ci, rfl, _, _⟩ := r
      obtain ⟨q, hq⟩ : ∃ q, q = sumN ((zss.map List.length).take k) := ⟨_, rfl⟩
      obtain ⟨x, hx⟩ : ∃ x, x = (zss.getD k []).length := ⟨_, rfl⟩
      rw [← hq, ← hx] at hst
      rw [← hx] at c
      have hqb : q + x ≤ 1000000000 := by omega
      have cw : wr.cell? ⟨b, off + k, none⟩ = some (.slice ai x ci) := by rw [hw.out]; exact c
      rw [← hq]
      replace hst := hidI hst
      replace hq := hidI hq
      replace hx := hidI hx
      replace hk := hidI hk
      clear c hsl
      go_wp2
      go_roundg (n - (k + 1))
      case rel => exact ⟨k + 1, m, by have := hk.out; omega, by go_num, by rw [hst.out]; try go_num, hw⟩
      case measure => have := hk.out; omega
    · obtain rfl : k = n := by omega
      have hki : ¬ (k : Int) < (k : Int) := by omega
      have hfull : (zss.map List.length).take k = zss.map List.length := List.take_of_length_le (by rw [List.length_map]; have := hn.out; omega)
      rw [hfull]
      replace hk := hidI hk
      replace hfull := hidI hfull
      go_wp2
      go_ret
      exact ⟨rfl, m, hw.out⟩
/-- Are these the words of a flower? -/
def arew (r : Int) (zss : List (List Int)) : Bool := decide ((∀ i, i < zss.length → isW r (zss.getD i []) = true) ∧ 1 ≤ r ∧ r ≤ 3 ∧ zss.length ≤ 6 ∧ totL zss < 40)
theorem arew_bad {r : Int} {zss : List (List Int)} {i : Nat} (hi : i < zss.length) (h : isW r (zss.getD i []) = false) : arew r zss = false := by
  unfold arew
  rw [decide_eq_false_iff_not]
  intro hh
  rw [hh.1 i hi] at h
  cases h
theorem arew_end {r : Int} {zss : List (List Int)} (h : ∀ i, i < zss.length → isW r (zss.getD i []) = true) : arew r zss = decide (1 ≤ r ∧ r ≤ 3 ∧ zss.length ≤ 6 ∧ totL zss < 40) := by
  unfold arew
  congr 1
  rw [eq_iff_iff]
  exact ⟨fun h => h.2, fun h' => ⟨h, h'⟩⟩
set_option maxHeartbeats 3200000 in
theorem specAreW (w : World) (B : Nat) (v : Value) (zss : List (List Int)) (r : Int) (h : ReadSS B w v zss) (hs : totL zss ≤ 1000000000) :
    Calls Tryz.prog 74 #[.int .i64 r, v] w (BoolRet w (arew r zss)) := by
  have h' := h
  obtain ⟨hl, a, cap, rfl, _, _⟩ := h'
  have hl0 := h
  obtain ⟨n, hn⟩ : ∃ n, n = zss.length := ⟨_, rfl⟩
  rw [← hn] at hl h hl0
  replace hn := hidI hn
  replace h := hidI h
  replace hl0 := hidI hl0
  go_enter Tryz.func74, Tryz.ntmps74
  rw [← hn.out]
  go_wp2
  go_loopg [5] n (fun g i wr => ∃ k m : Nat, k + g = n ∧ i = .int .i64 k ∧ Hid (∀ j, j < k → isW r (zss.getD j []) = true) ∧ Hid (wr = w.drewN m))
  case atStart => exact ⟨0, 0, by omega, rfl, hidI (fun j h => by omega), hidI rfl⟩
  case round =>
    obtain ⟨k, m, hk, rfl, heq, hw⟩ := hrel
    by_cases hlt : k < n
    · have hki : (k : Int) < (n : Int) := by omega
      obtain ⟨b, off, u, rfl, hb, c, r0⟩ := h.out.at_ k (by have := hn.out; omega)
      have cw : wr.cell? ⟨b, off + k, none⟩ = some u := by rw [hw.out]; exact c
      have hcall := specIsW wr B u (zss.getD k []) r (by rw [hw.out]; exact r0)
      clear c r0
      replace hk := hidI hk
      by_cases he : isW r (zss.getD k []) = true
      · rw [he] at hcall
        have hnx : Hid (∀ j, j < k + 1 → isW r (zss.getD j []) = true) := hidI fun j hj => by
          by_cases e : j = k
          · subst e; exact he
          · exact heq.out j (by omega)
        replace he := hidI he
        go_wp2_with fail
        refine hcall.mono ?_
        rintro e w3 ⟨rfl, m3, rfl⟩
        clear hcall
        go_wp2
        go_roundg (n - (k + 1))
        case rel => exact ⟨k + 1, m + m3, by have := hk.out; omega, by go_num, hnx, hidI (by rw [hw.out, World.drewN_drewN])⟩
        case measure => have := hk.out; omega
      · have he' : isW r (zss.getD k []) = false := by simpa using he
        rw [he'] at hcall
        have hbad := arew_bad (r := r) (by have := hn.out; omega) he'
        replace hbad := hidI hbad
        replace he := hidI he
        replace he' := hidI he'
        go_wp2_with fail
        refine hcall.mono ?_
        rintro e w3 ⟨rfl, m3, rfl⟩
        clear hcall
        go_wp2
        go_ret
        exact ⟨ret_bool hbad.out.symm, m + m3, by rw [hw.out, World.drewN_drewN]⟩
    · obtain rfl : k = n := by omega
      have hki : ¬ (k : Int) < (k : Int) := by omega
      have harew := arew_end (r := r) (zss := zss) (fun i hi => heq.out i (by have := hn.out; omega))
      rw [← hn.out] at harew
      have hin := in_any wr r 1 3
      have htot := specTotal wr B _ zss (by rw [hw.out]; exact hl0.out) hs
      obtain ⟨T, hT⟩ : ∃ T, T = totL zss := ⟨_, rfl⟩
      rw [← hT] at htot harew
      replace hT := hidI hT
      replace hk := hidI hk
      by_cases g1 : 1 ≤ r ∧ r ≤ 3
      · rw [decide_eq_true g1] at hin
        by_cases g2 : k ≤ 6
        · have g2d : decide ((k : Int) ≤ 6) = true := by rw [decide_eq_true_eq]; omega
          have hans : decide (1 ≤ r ∧ r ≤ 3 ∧ k ≤ 6 ∧ T < 40) = decide ((T : Int) < 40) := by
            congr 1; rw [eq_iff_iff]; constructor
            · intro h; omega
            · intro h; omega
          rw [hans] at harew
          replace harew := hidI harew
          clear hans
          replace g1 := hidI g1
          go_wp2_with fail
          refine hin.mono ?_
          rintro e w3 ⟨rfl, rfl⟩
          clear hin
          go_wp2_with fail
          refine htot.mono ?_
          rintro e w4 ⟨rfl, m4, rfl⟩
          clear htot
          go_wp2
          go_ret
          exact ⟨ret_bool harew.out.symm, m + m4, by rw [hw.out, World.drewN_drewN]⟩
        · have g2d : decide ((k : Int) ≤ 6) = false := by rw [decide_eq_false_iff_not]; omega
          have hans : decide (1 ≤ r ∧ r ≤ 3 ∧ k ≤ 6 ∧ T < 40) = false := by rw [decide_eq_false_iff_not]; omega
          rw [hans] at harew
          replace harew := hidI harew
          clear hans
          replace g1 := hidI g1
          go_wp2_with fail
          refine hin.mono ?_
          rintro e w3 ⟨rfl, rfl⟩
          clear hin
          go_wp2
          go_ret
          exact ⟨ret_bool harew.out.symm, m, hw.out⟩
      · rw [decide_eq_false g1] at hin
        have hans : decide (1 ≤ r ∧ r ≤ 3 ∧ k ≤ 6 ∧ T < 40) = false := by rw [decide_eq_false_iff_not]; omega
        rw [hans] at harew
        replace harew := hidI harew
        clear hans
        replace g1 := hidI g1
        go_wp2_with fail
        refine hin.mono ?_
        rintro e w3 ⟨rfl, rfl⟩
        clear hin
        go_wp2
        go_ret
        exact ⟨ret_bool harew.out.symm, m, hw.out⟩
end Go.Proofs.YtgngfffmkjckdaaGreatDoor

namespace Go.Proofs.YtgngfffmkjckdaaGreatDoor
open Go.RowKit
set_option linter.unusedVariables false

end Go.Proofs.YtgngfffmkjckdaaGreatDoor

namespace Go.Proofs.YtgngfffmkjckdaaGreatDoor
open Go.RowKit
set_option linter.unusedVariables false

theorem isRank_yes (w : World) (r : Int) (h1 : 1 ≤ r) (h2 : r ≤ 3) : Calls Tryz.prog 59 #[.int .i64 r] w fun e w' => e = .returned (.bool true) ∧ w = w' := by
  go_enter Tryz.func59, Tryz.ntmps59
  go_wp2
  go_ret
  exact ⟨rfl, rfl⟩
theorem isRank_no (w : World) (r : Int) (h : r < 1 ∨ 3 < r) : Calls Tryz.prog 59 #[.int .i64 r] w fun e w' => e = .returned (.bool false) ∧ w = w' := by
  by_cases h1 : 1 ≤ r
  · have h2 : 3 < r := by omega
    have h3 : decide (r ≤ 3) = false := by simp; omega
    clear h
    go_enter Tryz.func59, Tryz.ntmps59
    go_wp2
    go_ret
    exact ⟨rfl, rfl⟩
  · clear h
    go_enter Tryz.func59, Tryz.ntmps59
    go_wp2
    go_ret
    exact ⟨rfl, rfl⟩
theorem isLetter_yes (w : World) (r x : Int) (hr1 : 1 ≤ r) (hr3 : r ≤ 3) (h0 : x ≠ 0) (h1 : -r ≤ x) (h2 : x ≤ r) : Calls Tryz.prog 81 #[.int .i64 r, .int .i64 x] w fun e w' => e = .returned (.bool true) ∧ w = w' := by
  have g0 : (x != 0) = true := by rw [bne_iff_ne]; exact h0
  clear h0
  go_enter Tryz.func81, Tryz.ntmps81
  go_wp2
  go_ret
  exact ⟨rfl, rfl⟩
theorem isLetter_no (w : World) (r x : Int) (hr1 : 1 ≤ r) (hr3 : r ≤ 3) (h : x = 0 ∨ x < -r ∨ r < x) : Calls Tryz.prog 81 #[.int .i64 r, .int .i64 x] w fun e w' => e = .returned (.bool false) ∧ w = w' := by
  by_cases h0 : x = 0
  · have g0 : (x != 0) = false := by rw [bne_eq_false_iff_eq]; exact h0
    clear h h0
    go_enter Tryz.func81, Tryz.ntmps81
    go_wp2
    go_ret
    exact ⟨rfl, rfl⟩
  · have g0 : (x != 0) = true := by rw [bne_iff_ne]; exact h0
    by_cases h1 : -r ≤ x
    · have h2 : r < x := by omega
      clear h0
      have h3 : decide (x ≤ r) = false := by simp; omega
      clear h
      go_enter Tryz.func81, Tryz.ntmps81
      go_wp2
      go_ret
      exact ⟨rfl, rfl⟩
    · have h3 : decide (-r ≤ x) = false := by simp; omega
      clear h h0
      go_enter Tryz.func81, Tryz.ntmps81
      go_wp2
      go_ret
      exact ⟨rfl, rfl⟩
end Go.Proofs.YtgngfffmkjckdaaGreatDoor

namespace Go.Proofs.YtgngfffmkjckdaaGreatDoor
open Go.RowKit
set_option linter.unusedVariables false

def rankB (r : Int) : Bool := decide (1 ≤ r ∧ r ≤ 3)
end Go.Proofs.YtgngfffmkjckdaaGreatDoor

namespace Go.Proofs.YtgngfffmkjckdaaGreatDoor
open Go.RowKit
set_option linter.unusedVariables false
set_option linter.unusedSimpArgs false

/-! ### AreWords -/
/-- Has each of these been read as a word? -/
def allW (r : Int) (zss : List (List Int)) : Bool := decide (∀ i, i < zss.length → isW r (zss.getD i []) = true)
def IdxRet (w : World) (q : Bool) (e : Ending) (w' : World) : Prop := ∃ (z : Int) (m : Nat), e = .returned (.int .i64 z) ∧ decide (0 ≤ z) = q ∧ w' = w.drewN m
theorem arew_parts (r : Int) (zss : List (List Int)) : arew r zss = (decide (1 ≤ r ∧ r ≤ 3) && decide (zss.length ≤ 6) && decide (totL zss < 40) && allW r zss) := by
  unfold arew allW
  rw [← Bool.decide_and, ← Bool.decide_and, ← Bool.decide_and]
  congr 1
  rw [eq_iff_iff]
  constructor
  · rintro ⟨h1, h2, h3, h4, h5⟩; exact ⟨⟨⟨⟨h2, h3⟩, h4⟩, h5⟩, h1⟩
  · rintro ⟨⟨⟨⟨h2, h3⟩, h4⟩, h5⟩, h1⟩; exact ⟨h1, h2, h3, h4, h5⟩
end Go.Proofs.YtgngfffmkjckdaaGreatDoor
