/- Words, the program: IsWord. -/
import Derived.Test.YtmafaglgegimfaaDoorWJl
import Derived.Test.YtmafaglgegimfaaDoorAI
import Derived.Test.YtmafaglgegimfaaDoorWS6
namespace Go.Proofs.YtmafaglgegimfaaDoor
open Go.RowKit
set_option linter.unusedVariables false

def rankB (r : Int) : Bool := decide (1 ≤ r ∧ r ≤ 3)
set_option maxHeartbeats 1600000 in
theorem isWord_any (w : World) (B : Nat) (v : Value) (zs : List Int) (r : Int) (h : ReadI B w v zs) :
    Calls Tryd.prog 24 #[.int .i64 r, v] w (BoolRet w (isW r zs)) := by
  have hr := h
  obtain ⟨hl, a, cap, rfl, _, hq⟩ := h
  clear hq
  obtain ⟨n, hn⟩ : ∃ n, n = zs.length := ⟨_, rfl⟩
  rw [← hn] at hr hl ⊢
  by_cases hrk : r < 1 ∨ 3 < r
  · have hb : isW r zs = false := by unfold isW; rw [decide_eq_false_iff_not]; omega
    have hcall := isRank_no w r hrk
    replace hb := hidI hb
    replace hn := hidI hn
    replace hr := hidI hr
    replace hrk := hidI hrk
    go_enter Tryd.func24, Tryd.ntmps24
    go_wp2_with fail
    refine hcall.mono ?_
    rintro e w1 ⟨rfl, rfl⟩
    go_wp2
    go_ret
    exact ⟨ret_bool hb.out.symm, 0, rfl⟩
  · have hr1 : 1 ≤ r := by omega
    have hr3 : r ≤ 3 := by omega
    have hcall := isRank_yes w r hr1 hr3
    clear hrk
    by_cases h24 : 24 < n
    · have hb : isW r zs = false := by unfold isW; rw [decide_eq_false_iff_not]; omega
      have h24i : (24 : Int) < (n : Int) := by omega
      replace hb := hidI hb
      replace hn := hidI hn
      replace hr := hidI hr
      go_enter Tryd.func24, Tryd.ntmps24
      go_wp2_with fail
      refine hcall.mono ?_
      rintro e w1 ⟨rfl, rfl⟩
      go_wp2
      go_ret
      exact ⟨ret_bool hb.out.symm, 0, rfl⟩
    · have h24i : decide ((24 : Int) < (n : Int)) = false := by simp; omega
      have hnr : ng r = -r := ng_of (by omega) (by omega)
      have hend : (∀ i, i < zs.length → okAt r zs i) → isW r zs = true := by
        intro hh
        rw [isW_end hh, decide_eq_true_eq]
        omega
      have hok : ∀ i, okAt r zs i ↔ zs.getD i 0 ≠ 0 ∧ -r ≤ zs.getD i 0 ∧ zs.getD i 0 ≤ r ∧ (0 < i → zs.getD i 0 ≠ ng (zs.getD (i - 1) 0)) := by
        intro i
        unfold okAt
        rw [hnr]
      have hn24 : n ≤ 24 := by omega
      replace hn := hidI hn
      replace hr := hidI hr
      replace hend := hidI hend
      replace hok := hidI hok
      replace hnr := hidI hnr
      clear h24
      go_enter Tryd.func24, Tryd.ntmps24
      go_wp2_with fail
      refine hcall.mono ?_
      rintro e w1 ⟨rfl, rfl⟩
      go_wp2
      go_loopw [17] (fun i wr => ∃ k : Nat, k ≤ n ∧ i = .int .i64 k ∧ Hid (wr = w) ∧ Hid (∀ i, i < k → okAt r zs i)) (fun i _ => n - (intOf i).toNat)
      case atStart => exact ⟨0, Nat.zero_le _, rfl, hidI rfl, hidI (fun i h => by omega)⟩
      case round =>
        obtain ⟨k, hk, rfl, hwr, heq⟩ := hrel
        have hwr' := hwr.out
        subst hwr'
        by_cases hlt : k < n
        · obtain ⟨b, off, rfl, hB, hc⟩ := hr.out.at_ k (by have := hn.out; omega)
          obtain ⟨x, hx⟩ : ∃ x, x = zs.getD k 0 := ⟨_, rfl⟩
          have hokd := hok.out k
          rw [← hx] at hc hokd
          have hbad : ¬ okAt r zs k → isW r zs = false := fun h => isW_bad (by have := hn.out; omega) h
          have hnext : okAt r zs k → ∀ i, i < k + 1 → okAt r zs i := by
            intro h i hi
            by_cases e : i = k
            · subst e; exact h
            · exact heq.out i (by omega)
          have hlt2 : (k : Int) < (n : Int) := by omega
          by_cases hxl : x = 0 ∨ x < -r ∨ r < x
          · have hcl := isLetter_no wr r x hr1 hr3 hxl
            have hb := hidI (hbad (by rw [hokd]; omega))
            replace hxl := hidI hxl
            replace hx := hidI hx
            clear hbad hokd hnext
            go_wp2_with fail
            refine hcl.mono ?_
            rintro e w1 ⟨rfl, rfl⟩
            go_wp2
            go_ret
            exact ⟨ret_bool hb.out.symm, 0, rfl⟩
          · have hx0 : x ≠ 0 := by omega
            have hxr1 : -r ≤ x := by omega
            have hxr2 : x ≤ r := by omega
            have hcl := isLetter_yes wr r x hr1 hr3 hx0 hxr1 hxr2
            clear hxl
            by_cases hk0 : 0 < k
            · obtain ⟨k', rfl⟩ : ∃ k', k = k' + 1 := ⟨k - 1, by omega⟩
              obtain ⟨y, hy⟩ : ∃ y, y = zs.getD k' 0 := ⟨_, rfl⟩
              obtain ⟨b', off', e, _, hcy⟩ := hr.out.at_ k' (by have := hn.out; omega)
              cases e
              have hoky := (hok.out k').1 (heq.out k' (by omega))
              rw [← hy] at hcy hoky
              rw [show k' + 1 - 1 = k' by omega, ← hy] at hokd
              have hidx : ((k' : Int) + 1 - 1) = (k' : Int) := by omega
              have hk1 : decide (0 < ((k' : Int) + 1)) = true := by rw [decide_eq_true_eq]; omega
              have hk2 : (0 : Int) < (k' : Int) + 1 := by omega
              have hinv : inv y x = decide (x = ng y) := by
                unfold inv
                rw [decide_eq_decide, ng_of (by omega) (by omega)]
                omega
              by_cases hxy : x = ng y
              · have hca := areInv wr y x (by omega) (by omega) true (by rw [hinv, decide_eq_true_eq]; exact hxy)
                have hb := hidI (hbad (by rw [hokd]; exact fun h => h.2.2.2 (by omega) hxy))
                replace hxy := hidI hxy
                replace hx := hidI hx
                replace hy := hidI hy
                replace hx0 := hidI hx0
                clear hbad hokd hnext hoky hinv hk0
                go_wp2_with fail
                refine hcl.mono ?_
                rintro e w1 ⟨rfl, rfl⟩
                go_wp2_with fail
                refine hca.mono ?_
                rintro e w1 ⟨rfl, rfl⟩
                go_wp2
                go_ret
                exact ⟨ret_bool hb.out.symm, 0, rfl⟩
              · have hca := areInv wr y x (by omega) (by omega) false (by rw [hinv, decide_eq_false_iff_not]; exact hxy)
                have hs := hidI (hnext (hokd.2 ⟨hx0, hxr1, hxr2, fun _ => hxy⟩))
                replace hxy := hidI hxy
                replace hx := hidI hx
                replace hy := hidI hy
                replace hx0 := hidI hx0
                clear hbad hokd hnext hoky hinv hk0
                go_wp2_with fail
                refine hcl.mono ?_
                rintro e w1 ⟨rfl, rfl⟩
                go_wp2_with fail
                refine hca.mono ?_
                rintro e w1 ⟨rfl, rfl⟩
                go_wp2
                go_roundw
                case rel => exact ⟨k' + 1 + 1, by omega, by go_num, hwr, hs⟩
                case measure => simp [intOf]; omega
            · obtain rfl : k = 0 := by omega
              rw [Nat.add_zero] at hc
              have hs := hidI (hnext (hokd.2 ⟨hx0, hxr1, hxr2, fun h => absurd h hk0⟩))
              replace hx := hidI hx
              replace hx0 := hidI hx0
              clear hbad hokd hnext hk0
              go_wp2_with fail
              refine hcl.mono ?_
              rintro e w1 ⟨rfl, rfl⟩
              go_wp2
              go_roundw
              case rel => exact ⟨0 + 1, by omega, by go_num, hwr, hs⟩
              case measure => simp [intOf]; omega
        · obtain rfl : k = n := by omega
          have hb := hidI (hend.out (by rw [← hn.out]; exact heq.out))
          go_wp2
          go_ret
          exact ⟨ret_bool hb.out.symm, 0, rfl⟩
end Go.Proofs.YtmafaglgegimfaaDoor
