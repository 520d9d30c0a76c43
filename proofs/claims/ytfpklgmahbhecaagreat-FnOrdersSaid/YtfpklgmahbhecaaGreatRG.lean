import Derived.Test.YtfpklgmahbhecaaGreatRE
import Derived.Test.YtfpklgmahbhecaaGreatRF
import Derived.Test.YtfpklgmahbhecaaGreatQB
import Derived.Test.YtfpklgmahbhecaaGreatQA
import Derived.Test.YtfpklgmahbhecaaGreatQD
import Derived.Test.YtfpklgmahbhecaaGreatRows
import Derived.WalkKit
import Derived.Deep.Cut
namespace Go.Proofs.YtfpklgmahbhecaaGreat
open Go.RowKit
set_option linter.unusedVariables false
set_option linter.unusedSimpArgs false
def TotRet (w : World) (n : Int) (e : Ending) (w' : World) : Prop := e = .returned (.int .i64 n) ∧ ∃ m, w' = w.drewN m
abbrev totL (zss : List (List Int)) : Nat := sumN (zss.map List.length)
theorem totL_take {zss : List (List Int)} {k : Nat} (h : k < zss.length) : sumN ((zss.map List.length).take (k + 1)) = sumN ((zss.map List.length).take k) + (zss.getD k []).length := by
 rw [sumN_take _ _ (by rw [List.length_map]; exact h), getD_map_len]
set_option maxHeartbeats 1600000 in
theorem specTotal (w : World) (B : Nat) (v : Value) (zss : List (List Int)) (h : ReadSS B w v zss) (hs : totL zss ≤ 1000000000) :
 Calls Tryz.prog 92 #[v] w (TotRet w (totL zss : Nat)) := by
 have hs' : sumN (zss.map List.length) ≤ 1000000000 := hs
 have h' := h
 obtain ⟨hl, a, cap, rfl, _, _⟩ := h'
 obtain ⟨n, hn⟩ := exq zss.length
 rw [← hn] at hl h
 replace hn := hidI hn
 replace h := hidI h
 go_enter Tryz.func92, Tryz.ntmps92
 rw [← hn.out]
 go_wp2
 go_loopg [3, 4] n (fun g a i wr => ∃ k m : Nat, k + g = n ∧ i = .int .i64 k ∧ a = .int .i64 (sumN ((zss.map List.length).take k) : Nat) ∧ Hid (wr = w.drewN m))
 case atStart => exact ⟨0, 0, by omega, rfl, by simp [sumN], hidI rfl⟩
 case round =>
  obtain ⟨k, m, hk, rfl, rfl, hw⟩ := hrel
  by_cases hlt : k < n
  · have hki : (k : Int) < (n : Int) := by omega
    obtain ⟨b, off, u, rfl, hb, c, r⟩ := h.out.at_ k (by have := hn.out; omega)
    have hst := totL_take (zss := zss) (k := k) (by have := hn.out; omega)
    have hsl := sumN_le (zss.map List.length) (k + 1)
    obtain ⟨_, ai, ci, rfl, _, _⟩ := r
    obtain ⟨q, hq⟩ := exq (sumN ((zss.map List.length).take k))
    obtain ⟨x, hx⟩ := exq ((zss.getD k []).length)
    rw [← hq, ← hx] at hst
    rw [← hx] at c
    have hqb : q + x ≤ 1000000000 := by omega
    have cw : wr.cell? ⟨b, off + k, none⟩ = some (.slice ai x ci) := by rw [hw.out]; exact c
    rw [← hq]
    replace hst := hidI hst
    replace hq := hidI hq
    replace hx := hidI hx
    replace hk := hidI hk
    clear c hsl
    go_wp2
    go_roundg (n - (k + 1))
    case rel => exact ⟨k + 1, m, by have := hk.out; omega, by go_num, by rw [hst.out]; try go_num, hw⟩
    case measure => have := hk.out; omega
  · obtain rfl : k = n := by omega
    have hki : ¬ (k : Int) < (k : Int) := by omega
    have hfull : (zss.map List.length).take k = zss.map List.length := List.take_of_length_le (by rw [List.length_map]; have := hn.out; omega)
    rw [hfull]
    replace hk := hidI hk
    replace hfull := hidI hfull
    go_wp2
    go_ret
    exact ⟨rfl, m, hw.out⟩
def arew (r : Int) (zss : List (List Int)) : Bool := decide ((∀ i, i < zss.length → isW r (zss.getD i []) = true) ∧ 1 ≤ r ∧ r ≤ 3 ∧ zss.length ≤ 6 ∧ totL zss < 40)
theorem arew_bad {r : Int} {zss : List (List Int)} {i : Nat} (hi : i < zss.length) (h : isW r (zss.getD i []) = false) : arew r zss = false := by
 unfold arew
 rw [decide_eq_false_iff_not]
 intro hh
 rw [hh.1 i hi] at h
 cases h
theorem arew_end {r : Int} {zss : List (List Int)} (h : ∀ i, i < zss.length → isW r (zss.getD i []) = true) : arew r zss = decide (1 ≤ r ∧ r ≤ 3 ∧ zss.length ≤ 6 ∧ totL zss < 40) := by
 unfold arew
 congr 1
 rw [eq_iff_iff]
 exact ⟨fun h => h.2, fun h' => ⟨h, h'⟩⟩
set_option maxHeartbeats 3200000 in
theorem specAreW (w : World) (B : Nat) (v : Value) (zss : List (List Int)) (r : Int) (h : ReadSS B w v zss) (hs : totL zss ≤ 1000000000) :
 Calls Tryz.prog 72 #[.int .i64 r, v] w (BoolRet w (arew r zss)) := by
 have h' := h
 obtain ⟨hl, a, cap, rfl, _, _⟩ := h'
 have hl0 := h
 obtain ⟨n, hn⟩ := exq zss.length
 rw [← hn] at hl h hl0
 replace hn := hidI hn
 replace h := hidI h
 replace hl0 := hidI hl0
 go_enter Tryz.func72, Tryz.ntmps72
 rw [← hn.out]
 go_wp2
 go_loopg [5] n (fun g i wr => ∃ k m : Nat, k + g = n ∧ i = .int .i64 k ∧ Hid (∀ j, j < k → isW r (zss.getD j []) = true) ∧ Hid (wr = w.drewN m))
 case atStart => exact ⟨0, 0, by omega, rfl, hidI (fun j h => by omega), hidI rfl⟩
 case round =>
  obtain ⟨k, m, hk, rfl, heq, hw⟩ := hrel
  by_cases hlt : k < n
  · have hki : (k : Int) < (n : Int) := by omega
    obtain ⟨b, off, u, rfl, hb, c, r0⟩ := h.out.at_ k (by have := hn.out; omega)
    have cw : wr.cell? ⟨b, off + k, none⟩ = some u := by rw [hw.out]; exact c
    have hcall := specIsW wr B u (zss.getD k []) r (by rw [hw.out]; exact r0)
    clear c r0
    replace hk := hidI hk
    by_cases he : isW r (zss.getD k []) = true
    · rw [he] at hcall
      have hnx : Hid (∀ j, j < k + 1 → isW r (zss.getD j []) = true) := hidI fun j hj => by
       by_cases e : j = k
       · subst e; exact he
       · exact heq.out j (by omega)
      replace he := hidI he
      go_wp2_with fail
      refine hcall.mono ?_
      rintro e w3 ⟨rfl, m3, rfl⟩
      clear hcall
      go_wp2
      go_roundg (n - (k + 1))
      case rel => exact ⟨k + 1, m + m3, by have := hk.out; omega, by go_num, hnx, hidI (by rw [hw.out, World.drewN_drewN])⟩
      case measure => have := hk.out; omega
    · have he' : isW r (zss.getD k []) = false := by simpa using he
      rw [he'] at hcall
      have hbad := arew_bad (r := r) (by have := hn.out; omega) he'
      replace hbad := hidI hbad
      replace he := hidI he
      replace he' := hidI he'
      go_wp2_with fail
      refine hcall.mono ?_
      rintro e w3 ⟨rfl, m3, rfl⟩
      clear hcall
      go_wp2
      go_ret
      exact ⟨ret_bool hbad.out.symm, m + m3, by rw [hw.out, World.drewN_drewN]⟩
  · obtain rfl : k = n := by omega
    have hki : ¬ (k : Int) < (k : Int) := by omega
    have harew := arew_end (r := r) (zss := zss) (fun i hi => heq.out i (by have := hn.out; omega))
    rw [← hn.out] at harew
    have hin := in_any wr r 1 3
    have htot := specTotal wr B _ zss (by rw [hw.out]; exact hl0.out) hs
    obtain ⟨T, hT⟩ := exq (totL zss)
    rw [← hT] at htot harew
    replace hT := hidI hT
    replace hk := hidI hk
    by_cases g1 : 1 ≤ r ∧ r ≤ 3
    · rw [decide_eq_true g1] at hin
      by_cases g2 : k ≤ 6
      · have g2d : decide ((k : Int) ≤ 6) = true := by rw [decide_eq_true_eq]; omega
        have hans : decide (1 ≤ r ∧ r ≤ 3 ∧ k ≤ 6 ∧ T < 40) = decide ((T : Int) < 40) := by
         congr 1; rw [eq_iff_iff]; constructor
         · intro h; omega
         · intro h; omega
        rw [hans] at harew
        replace harew := hidI harew
        clear hans
        replace g1 := hidI g1
        go_wp2_with fail
        refine hin.mono ?_
        rintro e w3 ⟨rfl, rfl⟩
        clear hin
        go_wp2_with fail
        refine htot.mono ?_
        rintro e w4 ⟨rfl, m4, rfl⟩
        clear htot
        go_wp2
        go_ret
        exact ⟨ret_bool harew.out.symm, m + m4, by rw [hw.out, World.drewN_drewN]⟩
      · have g2d : decide ((k : Int) ≤ 6) = false := by rw [decide_eq_false_iff_not]; omega
        have hans : decide (1 ≤ r ∧ r ≤ 3 ∧ k ≤ 6 ∧ T < 40) = false := by rw [decide_eq_false_iff_not]; omega
        rw [hans] at harew
        replace harew := hidI harew
        clear hans
        replace g1 := hidI g1
        go_wp2_with fail
        refine hin.mono ?_
        rintro e w3 ⟨rfl, rfl⟩
        clear hin
        go_wp2
        go_ret
        exact ⟨ret_bool harew.out.symm, m, hw.out⟩
    · rw [decide_eq_false g1] at hin
      have hans : decide (1 ≤ r ∧ r ≤ 3 ∧ k ≤ 6 ∧ T < 40) = false := by rw [decide_eq_false_iff_not]; omega
      rw [hans] at harew
      replace harew := hidI harew
      clear hans
      replace g1 := hidI g1
      go_wp2_with fail
      refine hin.mono ?_
      rintro e w3 ⟨rfl, rfl⟩
      clear hin
      go_wp2
      go_ret
      exact ⟨ret_bool harew.out.symm, m, hw.out⟩
end Go.Proofs.YtfpklgmahbhecaaGreat
