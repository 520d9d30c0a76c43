import Derived.WalkKit
import Derived.Deep.Cut
import Derived.Test.YtpjlamnjiilgbaaGreatJ8Is
import Derived.Test.YtpjlamnjiilgbaaGreatJ7Is
import Derived.Test.YtpjlamnjiilgbaaGreatJ1Is
import Derived.Test.YtpjlamnjiilgbaaGreatJ0Is
import Derived.Test.YtpjlamnjiilgbaaGreatJ3Is
import Derived.Test.YtpjlamnjiilgbaaGreatRows
import Derived.Test.YtpjlamnjiilgbaaGreatJ4Is
import Derived.Test.YtpjlamnjiilgbaaGreatJ5Is
namespace Go.Proofs.YtpjlamnjiilgbaaGreat
open Go.RowKit
set_option linter.unusedVariables false
set_option linter.unusedSimpArgs false
def TotRet (w : World) (n : Int) (e : Ending) (w' : World) : Prop := e = .returned (.int .i64 n) ∧ ∃ m, w' = w.drewN m
abbrev totL (zss : List (List Int)) : Nat := sumN (zss.map List.length)
theorem totL_take {zss : List (List Int)} {k : Nat} (h : k < zss.length) : sumN ((zss.map List.length).take (k + 1)) = sumN ((zss.map List.length).take k) + (zss.getD k []).length := by
 rw [sumN_take _ _ (by rw [List.length_map]; exact h), getD_map_len]
set_option maxHeartbeats 1600000 in
theorem specTotal (w : World) (B : Nat) (v : Value) (zss : List (List Int)) (h : ReadSS B w v zss) (hs : totL zss ≤ 1000000000) :
 Calls Tryz.prog 164 #[v] w (TotRet w (totL zss : Nat)) := by
 have hs' : sumN (zss.map List.length) ≤ 1000000000 := hs
 have h' := h
 obtain ⟨hl, a, cap, rfl, _, _⟩ := h'
 obtain ⟨n, hn⟩ := exq zss.length
 rw [← hn] at hl h
 replace hn := hidI hn
 replace h := hidI h
 go_enter Tryz.func164, Tryz.ntmps164
 rw [← hn.out]
 go_wp2
 go_loopg [3, 4] n (fun g a i wr => ∃ k m : Nat, k + g = n ∧ i = .int .i64 k ∧ a = .int .i64 (sumN ((zss.map List.length).take k) : Nat) ∧ Hid (wr = w.drewN m))
 case atStart => exact ⟨0, 0, by omega, rfl, by simp [sumN], hidI rfl⟩
 case round =>
  obtain ⟨k, m, hk, rfl, rfl, hw⟩ := hrel
  by_cases hlt : k < n
  · have hki : (k : Int) < (n : Int) := by omega
    obtain ⟨b, off, u, rfl, hb, c, r⟩ := h.out.at_ k (by have := hn.out; omega)
    have hst := totL_take (zss := zss) (k := k) (by have := hn.out; omega)
    have hsl := sumN_le (zss.map List.length) (k + 1)
    obtain ⟨_, ai, ci, rfl, _, _⟩ := r
    obtain ⟨q, hq⟩ := exq (sumN ((zss.map List.length).take k))
    obtain ⟨x, hx⟩ := exq ((zss.getD k []).length)
    rw [← hq, ← hx] at hst
    rw [← hx] at c
    have hqb : q + x ≤ 1000000000 := by omega
    have cw : wr.cell? ⟨b, off + k, none⟩ = some (.slice ai x ci) := by rw [hw.out]; exact c
    rw [← hq]
    replace hst := hidI hst
    replace hq := hidI hq
    replace hx := hidI hx
    replace hk := hidI hk
    clear c hsl
    go_wp2
    go_roundg (n - (k + 1))
    case rel => exact ⟨k + 1, m, by have := hk.out; omega, by go_num, by rw [hst.out]; try go_num, hw⟩
    case measure => have := hk.out; omega
  · obtain rfl : k = n := by omega
    have hki : ¬ (k : Int) < (k : Int) := by omega
    have hfull : (zss.map List.length).take k = zss.map List.length := List.take_of_length_le (by rw [List.length_map]; have := hn.out; omega)
    rw [hfull]
    replace hk := hidI hk
    replace hfull := hidI hfull
    go_wp2
    go_ret
    exact ⟨rfl, m, hw.out⟩
def arew (r : Int) (zss : List (List Int)) : Bool := decide ((∀ i, i < zss.length → isW r (zss.getD i []) = true) ∧ 1 ≤ r ∧ r ≤ 3 ∧ zss.length ≤ 6 ∧ totL zss < 40)
theorem arew_bad {r : Int} {zss : List (List Int)} {i : Nat} (hi : i < zss.length) (h : isW r (zss.getD i []) = false) : arew r zss = false := by
 unfold arew
 rw [decide_eq_false_iff_not]
 intro hh
 rw [hh.1 i hi] at h
 cases h
theorem arew_end {r : Int} {zss : List (List Int)} (h : ∀ i, i < zss.length → isW r (zss.getD i []) = true) : arew r zss = decide (1 ≤ r ∧ r ≤ 3 ∧ zss.length ≤ 6 ∧ totL zss < 40) := by
 unfold arew
 congr 1
 rw [eq_iff_iff]
 exact ⟨fun h => h.2, fun h' => ⟨h, h'⟩⟩
set_option maxHeartbeats 3200000 in
theorem specAreW (w : World) (B : Nat) (v : Value) (zss : List (List Int)) (r : Int) (h : ReadSS B w v zss) (hs : totL zss ≤ 1000000000) :
 Calls Tryz.prog 131 #[.int .i64 r, v] w (BoolRet w (arew r zss)) := by
 have h' := h
 obtain ⟨hl, a, cap, rfl, _, _⟩ := h'
 have hl0 := h
 obtain ⟨n, hn⟩ := exq zss.length
 rw [← hn] at hl h hl0
 replace hn := hidI hn
 replace h := hidI h
 replace hl0 := hidI hl0
 go_enter Tryz.func131, Tryz.ntmps131
 rw [← hn.out]
 go_wp2
 go_loopg [5] n (fun g i wr => ∃ k m : Nat, k + g = n ∧ i = .int .i64 k ∧ Hid (∀ j, j < k → isW r (zss.getD j []) = true) ∧ Hid (wr = w.drewN m))
 case atStart => exact ⟨0, 0, by omega, rfl, hidI (fun j h => by omega), hidI rfl⟩
 case round =>
  obtain ⟨k, m, hk, rfl, heq, hw⟩ := hrel
  by_cases hlt : k < n
  · have hki : (k : Int) < (n : Int) := by omega
    obtain ⟨b, off, u, rfl, hb, c, r0⟩ := h.out.at_ k (by have := hn.out; omega)
    have cw : wr.cell? ⟨b, off + k, none⟩ = some u := by rw [hw.out]; exact c
    have hcall := specIsW wr B u (zss.getD k []) r (by rw [hw.out]; exact r0)
    clear c r0
    replace hk := hidI hk
    by_cases he : isW r (zss.getD k []) = true
    · rw [he] at hcall
      have hnx : Hid (∀ j, j < k + 1 → isW r (zss.getD j []) = true) := hidI fun j hj => by
       by_cases e : j = k
       · subst e; exact he
       · exact heq.out j (by omega)
      replace he := hidI he
      go_wp2_with fail
      refine hcall.mono ?_
      rintro e w3 ⟨rfl, m3, rfl⟩
      clear hcall
      go_wp2
      go_roundg (n - (k + 1))
      case rel => exact ⟨k + 1, m + m3, by have := hk.out; omega, by go_num, hnx, hidI (by rw [hw.out, World.drewN_drewN])⟩
      case measure => have := hk.out; omega
    · have he' : isW r (zss.getD k []) = false := by simpa using he
      rw [he'] at hcall
      have hbad := arew_bad (r := r) (by have := hn.out; omega) he'
      replace hbad := hidI hbad
      replace he := hidI he
      replace he' := hidI he'
      go_wp2_with fail
      refine hcall.mono ?_
      rintro e w3 ⟨rfl, m3, rfl⟩
      clear hcall
      go_wp2
      go_ret
      exact ⟨ret_bool hbad.out.symm, m + m3, by rw [hw.out, World.drewN_drewN]⟩
  · obtain rfl : k = n := by omega
    have hki : ¬ (k : Int) < (k : Int) := by omega
    have harew := arew_end (r := r) (zss := zss) (fun i hi => heq.out i (by have := hn.out; omega))
    rw [← hn.out] at harew
    have hin := in_any wr r 1 3
    have htot := specTotal wr B _ zss (by rw [hw.out]; exact hl0.out) hs
    obtain ⟨T, hT⟩ := exq (totL zss)
    rw [← hT] at htot harew
    replace hT := hidI hT
    replace hk := hidI hk
    by_cases g1 : 1 ≤ r ∧ r ≤ 3
    · rw [decide_eq_true g1] at hin
      by_cases g2 : k ≤ 6
      · have g2d : decide ((k : Int) ≤ 6) = true := by rw [decide_eq_true_eq]; omega
        have hans : decide (1 ≤ r ∧ r ≤ 3 ∧ k ≤ 6 ∧ T < 40) = decide ((T : Int) < 40) := by
         congr 1; rw [eq_iff_iff]; constructor
         · intro h; omega
         · intro h; omega
        rw [hans] at harew
        replace harew := hidI harew
        clear hans
        replace g1 := hidI g1
        go_wp2_with fail
        refine hin.mono ?_
        rintro e w3 ⟨rfl, rfl⟩
        clear hin
        go_wp2_with fail
        refine htot.mono ?_
        rintro e w4 ⟨rfl, m4, rfl⟩
        clear htot
        go_wp2
        go_ret
        exact ⟨ret_bool harew.out.symm, m + m4, by rw [hw.out, World.drewN_drewN]⟩
      · have g2d : decide ((k : Int) ≤ 6) = false := by rw [decide_eq_false_iff_not]; omega
        have hans : decide (1 ≤ r ∧ r ≤ 3 ∧ k ≤ 6 ∧ T < 40) = false := by rw [decide_eq_false_iff_not]; omega
        rw [hans] at harew
        replace harew := hidI harew
        clear hans
        replace g1 := hidI g1
        go_wp2_with fail
        refine hin.mono ?_
        rintro e w3 ⟨rfl, rfl⟩
        clear hin
        go_wp2
        go_ret
        exact ⟨ret_bool harew.out.symm, m, hw.out⟩
    · rw [decide_eq_false g1] at hin
      have hans : decide (1 ≤ r ∧ r ≤ 3 ∧ k ≤ 6 ∧ T < 40) = false := by rw [decide_eq_false_iff_not]; omega
      rw [hans] at harew
      replace harew := hidI harew
      clear hans
      replace g1 := hidI g1
      go_wp2_with fail
      refine hin.mono ?_
      rintro e w3 ⟨rfl, rfl⟩
      clear hin
      go_wp2
      go_ret
      exact ⟨ret_bool harew.out.symm, m, hw.out⟩
theorem areInv (w : World) (y x : Int) (hy : -9223372036854775808 ≤ y ∧ y ≤ 9223372036854775807) (hx : -9223372036854775808 ≤ x ∧ x ≤ 9223372036854775807) (b : Bool) (hb : inv y x = b) :
 Calls Tryz.prog 174 #[.int .i64 y, .int .i64 x] w fun e w' => e = .returned (.bool b) ∧ w = w' := by
 have he : y = ng x ∧ y ≠ 0 ∧ y ≠ -9223372036854775808 ↔ y + x = 0 ∧ x ≠ 0 := by
  by_cases h1 : x = -9223372036854775808
  · subst h1; rw [ng_min]; omega
  · rw [ng_of (by omega) hx.2]; omega
 by_cases h1 : y = ng x
 · have g1 : (y == wrap64 (-x)) = true := by rw [beq_iff_eq]; exact h1
   by_cases h2 : y = 0
   · have g2 : (y != 0) = false := by rw [bne_eq_false_iff_eq]; exact h2
     have hbb : b = false := by rw [← hb]; unfold inv; rw [decide_eq_false_iff_not, ← he]; exact fun h => h.2.1 h2
     subst hbb
     clear hb he h1 h2
     go_enter Tryz.func174, Tryz.ntmps174
     go_wp2
     go_ret
     exact ⟨rfl, rfl⟩
   · have g2 : (y != 0) = true := by rw [bne_iff_ne]; exact h2
     by_cases h3 : y = -9223372036854775808
     · have g3 : (y != -9223372036854775808) = false := by rw [bne_eq_false_iff_eq]; exact h3
       have hbb : b = false := by rw [← hb]; unfold inv; rw [decide_eq_false_iff_not, ← he]; exact fun h => h.2.2 h3
       subst hbb
       clear hb he h1 h2 h3
       go_enter Tryz.func174, Tryz.ntmps174
       go_wp2
       go_ret
       exact ⟨rfl, rfl⟩
     · have g3 : (y != -9223372036854775808) = true := by rw [bne_iff_ne]; exact h3
       have hbb : b = true := by rw [← hb]; unfold inv; rw [decide_eq_true_eq, ← he]; exact ⟨h1, h2, h3⟩
       subst hbb
       clear hb he h1 h2 h3
       go_enter Tryz.func174, Tryz.ntmps174
       go_wp2
       go_ret
       exact ⟨rfl, rfl⟩
 · have g1 : (y == wrap64 (-x)) = false := by rw [beq_eq_false_iff_ne]; exact h1
   have hbb : b = false := by rw [← hb]; unfold inv; rw [decide_eq_false_iff_not, ← he]; exact fun h => h1 h.1
   subst hbb
   clear hb he h1
   go_enter Tryz.func174, Tryz.ntmps174
   go_wp2
   go_ret
   exact ⟨rfl, rfl⟩
theorem isRank_yes (w : World) (r : Int) (h1 : 1 ≤ r) (h2 : r ≤ 3) : Calls Tryz.prog 142 #[.int .i64 r] w fun e w' => e = .returned (.bool true) ∧ w = w' := by
 go_enter Tryz.func142, Tryz.ntmps142
 go_wp2
 go_ret
 exact ⟨rfl, rfl⟩
theorem isRank_no (w : World) (r : Int) (h : r < 1 ∨ 3 < r) : Calls Tryz.prog 142 #[.int .i64 r] w fun e w' => e = .returned (.bool false) ∧ w = w' := by
 by_cases h1 : 1 ≤ r
 · have h2 : 3 < r := by omega
   have h3 : decide (r ≤ 3) = false := by simp; omega
   clear h
   go_enter Tryz.func142, Tryz.ntmps142
   go_wp2
   go_ret
   exact ⟨rfl, rfl⟩
 · clear h
   go_enter Tryz.func142, Tryz.ntmps142
   go_wp2
   go_ret
   exact ⟨rfl, rfl⟩
theorem isLetter_yes (w : World) (r x : Int) (hr1 : 1 ≤ r) (hr3 : r ≤ 3) (h0 : x ≠ 0) (h1 : -r ≤ x) (h2 : x ≤ r) : Calls Tryz.prog 173 #[.int .i64 r, .int .i64 x] w fun e w' => e = .returned (.bool true) ∧ w = w' := by
 have g0 : (x != 0) = true := by rw [bne_iff_ne]; exact h0
 clear h0
 go_enter Tryz.func173, Tryz.ntmps173
 go_wp2
 go_ret
 exact ⟨rfl, rfl⟩
theorem isLetter_no (w : World) (r x : Int) (hr1 : 1 ≤ r) (hr3 : r ≤ 3) (h : x = 0 ∨ x < -r ∨ r < x) : Calls Tryz.prog 173 #[.int .i64 r, .int .i64 x] w fun e w' => e = .returned (.bool false) ∧ w = w' := by
 by_cases h0 : x = 0
 · have g0 : (x != 0) = false := by rw [bne_eq_false_iff_eq]; exact h0
   clear h h0
   go_enter Tryz.func173, Tryz.ntmps173
   go_wp2
   go_ret
   exact ⟨rfl, rfl⟩
 · have g0 : (x != 0) = true := by rw [bne_iff_ne]; exact h0
   by_cases h1 : -r ≤ x
   · have h2 : r < x := by omega
     clear h0
     have h3 : decide (x ≤ r) = false := by simp; omega
     clear h
     go_enter Tryz.func173, Tryz.ntmps173
     go_wp2
     go_ret
     exact ⟨rfl, rfl⟩
   · have h3 : decide (-r ≤ x) = false := by simp; omega
     clear h h0
     go_enter Tryz.func173, Tryz.ntmps173
     go_wp2
     go_ret
     exact ⟨rfl, rfl⟩
set_option maxHeartbeats 1600000 in
theorem isWord_any (w : World) (B : Nat) (v : Value) (zs : List Int) (r : Int) (h : ReadI B w v zs) :
 Calls Tryz.prog 169 #[.int .i64 r, v] w (BoolRet w (isW r zs)) := by
 have hr := h
 obtain ⟨hl, a, cap, rfl, _, hq⟩ := h
 clear hq
 obtain ⟨n, hn⟩ := exq zs.length
 rw [← hn] at hr hl ⊢
 by_cases hrk : r < 1 ∨ 3 < r
 · have hb : isW r zs = false := by unfold isW; rw [decide_eq_false_iff_not]; omega
   have hcall := isRank_no w r hrk
   replace hb := hidI hb
   replace hn := hidI hn
   replace hr := hidI hr
   replace hrk := hidI hrk
   go_enter Tryz.func169, Tryz.ntmps169
   go_wp2_with fail
   refine hcall.mono ?_
   rintro e w1 ⟨rfl, rfl⟩
   go_wp2
   go_ret
   exact ⟨ret_bool hb.out.symm, 0, rfl⟩
 · have hr1 : 1 ≤ r := by omega
   have hr3 : r ≤ 3 := by omega
   have hcall := isRank_yes w r hr1 hr3
   clear hrk
   by_cases h24 : 24 < n
   · have hb : isW r zs = false := by unfold isW; rw [decide_eq_false_iff_not]; omega
     have h24i : (24 : Int) < (n : Int) := by omega
     replace hb := hidI hb
     replace hn := hidI hn
     replace hr := hidI hr
     go_enter Tryz.func169, Tryz.ntmps169
     go_wp2_with fail
     refine hcall.mono ?_
     rintro e w1 ⟨rfl, rfl⟩
     go_wp2
     go_ret
     exact ⟨ret_bool hb.out.symm, 0, rfl⟩
   · have h24i : decide ((24 : Int) < (n : Int)) = false := by simp; omega
     have hnr : ng r = -r := ng_of (by omega) (by omega)
     have hend : (∀ i, i < zs.length → okAt r zs i) → isW r zs = true := by
      intro hh
      rw [isW_end hh, decide_eq_true_eq]
      omega
     have hok : ∀ i, okAt r zs i ↔ zs.getD i 0 ≠ 0 ∧ -r ≤ zs.getD i 0 ∧ zs.getD i 0 ≤ r ∧ (0 < i → zs.getD i 0 ≠ ng (zs.getD (i - 1) 0)) := by
      intro i
      unfold okAt
      rw [hnr]
     have hn24 : n ≤ 24 := by omega
     replace hn := hidI hn
     replace hr := hidI hr
     replace hend := hidI hend
     replace hok := hidI hok
     replace hnr := hidI hnr
     clear h24
     go_enter Tryz.func169, Tryz.ntmps169
     go_wp2_with fail
     refine hcall.mono ?_
     rintro e w1 ⟨rfl, rfl⟩
     go_wp2
     go_loopw [17] (fun i wr => ∃ k : Nat, k ≤ n ∧ i = .int .i64 k ∧ Hid (wr = w) ∧ Hid (∀ i, i < k → okAt r zs i)) (fun i _ => n - (intOf i).toNat)
     case atStart => exact ⟨0, Nat.zero_le _, rfl, hidI rfl, hidI (fun i h => by omega)⟩
     case round =>
      obtain ⟨k, hk, rfl, hwr, heq⟩ := hrel
      have hwr' := hwr.out
      subst hwr'
      by_cases hlt : k < n
      · obtain ⟨b, off, rfl, hB, hc⟩ := hr.out.at_ k (by have := hn.out; omega)
        obtain ⟨x, hx⟩ := exq (zs.getD k 0)
        have hokd := hok.out k
        rw [← hx] at hc hokd
        have hbad : ¬ okAt r zs k → isW r zs = false := fun h => isW_bad (by have := hn.out; omega) h
        have hnext : okAt r zs k → ∀ i, i < k + 1 → okAt r zs i := by
         intro h i hi
         by_cases e : i = k
         · subst e; exact h
         · exact heq.out i (by omega)
        have hlt2 : (k : Int) < (n : Int) := by omega
        by_cases hxl : x = 0 ∨ x < -r ∨ r < x
        · have hcl := isLetter_no wr r x hr1 hr3 hxl
          have hb := hidI (hbad (by rw [hokd]; omega))
          replace hxl := hidI hxl
          replace hx := hidI hx
          clear hbad hokd hnext
          go_wp2_with fail
          refine hcl.mono ?_
          rintro e w1 ⟨rfl, rfl⟩
          go_wp2
          go_ret
          exact ⟨ret_bool hb.out.symm, 0, rfl⟩
        · have hx0 : x ≠ 0 := by omega
          have hxr1 : -r ≤ x := by omega
          have hxr2 : x ≤ r := by omega
          have hcl := isLetter_yes wr r x hr1 hr3 hx0 hxr1 hxr2
          clear hxl
          by_cases hk0 : 0 < k
          · obtain ⟨k', rfl⟩ : ∃ k', k = k' + 1 := ⟨k - 1, by omega⟩
            obtain ⟨y, hy⟩ := exq (zs.getD k' 0)
            obtain ⟨b', off', e, _, hcy⟩ := hr.out.at_ k' (by have := hn.out; omega)
            cases e
            have hoky := (hok.out k').1 (heq.out k' (by omega))
            rw [← hy] at hcy hoky
            rw [show k' + 1 - 1 = k' by omega, ← hy] at hokd
            have hidx : ((k' : Int) + 1 - 1) = (k' : Int) := by omega
            have hk1 : decide (0 < ((k' : Int) + 1)) = true := by rw [decide_eq_true_eq]; omega
            have hk2 : (0 : Int) < (k' : Int) + 1 := by omega
            have hinv : inv y x = decide (x = ng y) := by
             unfold inv
             rw [decide_eq_decide, ng_of (by omega) (by omega)]
             omega
            by_cases hxy : x = ng y
            · have hca := areInv wr y x (by omega) (by omega) true (by rw [hinv, decide_eq_true_eq]; exact hxy)
              have hb := hidI (hbad (by rw [hokd]; exact fun h => h.2.2.2 (by omega) hxy))
              replace hxy := hidI hxy
              replace hx := hidI hx
              replace hy := hidI hy
              replace hx0 := hidI hx0
              clear hbad hokd hnext hoky hinv hk0
              go_wp2_with fail
              refine hcl.mono ?_
              rintro e w1 ⟨rfl, rfl⟩
              go_wp2_with fail
              refine hca.mono ?_
              rintro e w1 ⟨rfl, rfl⟩
              go_wp2
              go_ret
              exact ⟨ret_bool hb.out.symm, 0, rfl⟩
            · have hca := areInv wr y x (by omega) (by omega) false (by rw [hinv, decide_eq_false_iff_not]; exact hxy)
              have hs := hidI (hnext (hokd.2 ⟨hx0, hxr1, hxr2, fun _ => hxy⟩))
              replace hxy := hidI hxy
              replace hx := hidI hx
              replace hy := hidI hy
              replace hx0 := hidI hx0
              clear hbad hokd hnext hoky hinv hk0
              go_wp2_with fail
              refine hcl.mono ?_
              rintro e w1 ⟨rfl, rfl⟩
              go_wp2_with fail
              refine hca.mono ?_
              rintro e w1 ⟨rfl, rfl⟩
              go_wp2
              go_roundw
              case rel => exact ⟨k' + 1 + 1, by omega, by go_num, hwr, hs⟩
              case measure => simp [intOf]; omega
          · obtain rfl : k = 0 := by omega
            rw [Nat.add_zero] at hc
            have hs := hidI (hnext (hokd.2 ⟨hx0, hxr1, hxr2, fun h => absurd h hk0⟩))
            replace hx := hidI hx
            replace hx0 := hidI hx0
            clear hbad hokd hnext hk0
            go_wp2_with fail
            refine hcl.mono ?_
            rintro e w1 ⟨rfl, rfl⟩
            go_wp2
            go_roundw
            case rel => exact ⟨0 + 1, by omega, by go_num, hwr, hs⟩
            case measure => simp [intOf]; omega
      · obtain rfl : k = n := by omega
        have hb := hidI (hend.out (by rw [← hn.out]; exact heq.out))
        go_wp2
        go_ret
        exact ⟨ret_bool hb.out.symm, 0, rfl⟩
set_option maxHeartbeats 1600000 in
theorem progTotal (w : World) (B : Nat) (v : Value) (zss : List (List Int)) (h : ReadSS B w v zss) (hs : totL zss ≤ 1000000000) :
 Calls Tryz.prog 167 #[v] w (TotRet w (totL zss : Nat)) := by
 have hs' : sumN (zss.map List.length) ≤ 1000000000 := hs
 have h' := h
 obtain ⟨hl, a, cap, rfl, _, _⟩ := h'
 obtain ⟨n, hn⟩ := exq zss.length
 rw [← hn] at hl h
 replace hn := hidI hn
 replace h := hidI h
 go_enter Tryz.func167, Tryz.ntmps167
 rw [← hn.out]
 go_wp2
 go_loopg [3, 5, 8] n (fun g a x i wr => ∃ k : Nat, k + g = n ∧ i = .int .i64 k ∧ a = .int .i64 (sumN ((zss.map List.length).take k) : Nat) ∧ Hid (wr = w))
 case atStart => exact ⟨0, by omega, rfl, by simp [sumN], hidI rfl⟩
 case round =>
  obtain ⟨k, hk, rfl, rfl, hw⟩ := hrel
  by_cases hlt : k < n
  · have hki : (k : Int) < (n : Int) := by omega
    obtain ⟨b, off, u, rfl, hb, c, r⟩ := h.out.at_ k (by have := hn.out; omega)
    have hst := totL_take (zss := zss) (k := k) (by have := hn.out; omega)
    have hsl := sumN_le (zss.map List.length) (k + 1)
    obtain ⟨_, ai, ci, rfl, _, _⟩ := r
    obtain ⟨q, hq⟩ := exq (sumN ((zss.map List.length).take k))
    obtain ⟨x, hx⟩ := exq ((zss.getD k []).length)
    rw [← hq, ← hx] at hst
    rw [← hx] at c
    have hqb : q + x ≤ 1000000000 := by omega
    have cw : wr.cell? ⟨b, off + k, none⟩ = some (.slice ai x ci) := by rw [hw.out]; exact c
    rw [← hq]
    replace hst := hidI hst
    replace hq := hidI hq
    replace hx := hidI hx
    replace hk := hidI hk
    clear c hsl
    go_wp2
    go_roundg (n - (k + 1))
    case rel => exact ⟨k + 1, by have := hk.out; omega, by go_num, by rw [hst.out]; try go_num, hw⟩
    case measure => have := hk.out; omega
  · obtain rfl : k = n := by omega
    have hki : ¬ (k : Int) < (k : Int) := by omega
    have hfull : (zss.map List.length).take k = zss.map List.length := List.take_of_length_le (by rw [List.length_map]; have := hn.out; omega)
    rw [hfull]
    replace hk := hidI hk
    replace hfull := hidI hfull
    go_wp2
    go_ret
    exact ⟨rfl, 0, hw.out⟩
theorem notWord_any (w : World) (B : Nat) (u : Value) (zs : List Int) (r : Int) (bx : Nat) (h : ReadI B w u zs) (hB : w.cell? ⟨bx, 0, none⟩ = some (.int .i64 r)) :
 Calls Tryz.prog 168 #[u, .pointer (some ⟨bx, 0, none⟩)] w (BoolRet w (!(isW r zs))) := by
 have hcall := isWord_any w B u zs r h
 obtain ⟨q, hq⟩ := exq (isW r zs)
 rw [← hq] at hcall ⊢
 replace hq := hidI hq
 replace h := hidI h
 go_enter Tryz.func168, Tryz.ntmps168
 go_wp2_with fail
 refine hcall.mono ?_
 rintro e w1 ⟨rfl, n, rfl⟩
 clear hcall
 go_wp2
 go_ret
 exact ⟨rfl, n, rfl⟩
def allW (r : Int) (zss : List (List Int)) : Bool := decide (∀ i, i < zss.length → isW r (zss.getD i []) = true)
def IdxRet (w : World) (q : Bool) (e : Ending) (w' : World) : Prop := ∃ (z : Int) (m : Nat), e = .returned (.int .i64 z) ∧ decide (0 ≤ z) = q ∧ w' = w.drewN m
set_option maxHeartbeats 1600000 in
theorem indexW_any (w : World) (B : Nat) (v : Value) (zss : List (List Int)) (r : Int) (bx : Nat) (h : ReadSS B w v zss) (hB : w.cell? ⟨bx, 0, none⟩ = some (.int .i64 r)) :
 Calls Tryz.prog 79 #[v, .func (.func 168) #[] #[.pointer (some ⟨bx, 0, none⟩)]] w
  (IdxRet w (!(allW r zss))) := by
 have h' := h
 obtain ⟨hl, a, cap, rfl, _, _⟩ := h'
 obtain ⟨n, hn⟩ := exq zss.length
 rw [← hn] at hl h
 replace hn := hidI hn
 replace h := hidI h
 go_enter Tryz.func79, Tryz.ntmps79
 rw [← hn.out]
 go_wp2
 go_loopg [5, 8] n (fun g x i wr => ∃ k m : Nat, k + g = n ∧ i = .int .i64 k ∧ Hid (∀ j, j < k → isW r (zss.getD j []) = true) ∧ Hid (wr = w.drewN m))
 case atStart => exact ⟨0, 0, by omega, rfl, hidI (fun j h => by omega), hidI rfl⟩
 case round =>
  obtain ⟨k, m, hk, rfl, heq, hw⟩ := hrel
  by_cases hlt : k < n
  · have hki : (k : Int) < (n : Int) := by omega
    obtain ⟨b, off, u, rfl, hb, c, r0⟩ := h.out.at_ k (by have := hn.out; omega)
    have cw : wr.cell? ⟨b, off + k, none⟩ = some u := by rw [hw.out]; exact c
    have hcall := notWord_any wr B u (zss.getD k []) r bx (by rw [hw.out]; exact r0) (by rw [hw.out]; exact hB)
    clear c r0
    replace hk := hidI hk
    by_cases he : isW r (zss.getD k []) = true
    · rw [he] at hcall
      have hnx : Hid (∀ j, j < k + 1 → isW r (zss.getD j []) = true) := hidI fun j hj => by
       by_cases e : j = k
       · subst e; exact he
       · exact heq.out j (by omega)
      replace he := hidI he
      replace hnx := hidI hnx
      go_wp2_with fail
      refine hcall.mono ?_
      rintro e w3 ⟨rfl, m3, rfl⟩
      clear hcall
      go_wp2
      go_roundg (n - (k + 1))
      case rel => exact ⟨k + 1, m + m3, by have := hk.out; omega, by go_num, hnx.out, hidI (by rw [hw.out, World.drewN_drewN])⟩
      case measure => have := hk.out; omega
    · have he' : isW r (zss.getD k []) = false := by simpa using he
      rw [he'] at hcall
      have hall : decide ((0 : Int) ≤ (k : Int)) = !(allW r zss) := by
       have h1 : allW r zss = false := by
        unfold allW
        rw [decide_eq_false_iff_not]
        intro hh
        exact he (hh k (by have := hn.out; omega))
       rw [h1]; simp
      replace he := hidI he
      replace he' := hidI he'
      replace hall := hidI hall
      go_wp2_with fail
      refine hcall.mono ?_
      rintro e w3 ⟨rfl, m3, rfl⟩
      clear hcall
      go_wp2
      go_ret
      exact ⟨k, m + m3, rfl, hall.out, by rw [hw.out, World.drewN_drewN]⟩
  · obtain rfl : k = n := by omega
    have hki : ¬ (k : Int) < (k : Int) := by omega
    have hall : decide ((0 : Int) ≤ -1) = !(allW r zss) := by
     have h1 : allW r zss = true := by
      unfold allW
      rw [decide_eq_true_eq]
      exact fun i hi => heq.out i (by have := hn.out; omega)
     rw [h1]; rfl
    replace hall := hidI hall
    replace hk := hidI hk
    go_wp2
    go_ret
    exact ⟨-1, m, rfl, hall.out, hw.out⟩
theorem containsW_any (w : World) (B : Nat) (v : Value) (zss : List (List Int)) (r : Int) (bx : Nat) (h : ReadSS B w v zss) (hB : w.cell? ⟨bx, 0, none⟩ = some (.int .i64 r)) :
 Calls Tryz.prog 46 #[v, .func (.func 168) #[] #[.pointer (some ⟨bx, 0, none⟩)]] w (BoolRet w (!(allW r zss))) := by
 have hcall := indexW_any w B v zss r bx h hB
 obtain ⟨q, hq⟩ := exq (!(allW r zss))
 rw [← hq] at hcall ⊢
 replace hq := hidI hq
 replace h := hidI h
 go_enter Tryz.func46, Tryz.ntmps46
 go_wp2_with fail
 refine hcall.mono ?_
 rintro e w1 ⟨z, n, rfl, hz, rfl⟩
 clear hcall
 go_wp2
 go_ret
 exact ⟨ret_bool rfl, n, rfl⟩
theorem arew_parts (r : Int) (zss : List (List Int)) : arew r zss = (decide (1 ≤ r ∧ r ≤ 3) && decide (zss.length ≤ 6) && decide (totL zss < 40) && allW r zss) := by
 unfold arew allW
 rw [← Bool.decide_and, ← Bool.decide_and, ← Bool.decide_and]
 congr 1
 rw [eq_iff_iff]
 constructor
 · rintro ⟨h1, h2, h3, h4, h5⟩; exact ⟨⟨⟨⟨h2, h3⟩, h4⟩, h5⟩, h1⟩
 · rintro ⟨⟨⟨⟨h2, h3⟩, h4⟩, h5⟩, h1⟩; exact ⟨h1, h2, h3, h4, h5⟩
set_option maxHeartbeats 3200000 in
theorem progAreW (w : World) (v : Value) (zss : List (List Int)) (r : Int) (h : ReadSS w.heap.size w v zss) (hs : totL zss ≤ 1000000000) :
 Calls Tryz.prog 136 #[.int .i64 r, v] w (LwBool w (arew r zss)) := by
 rw [arew_parts]
 have h' := h
 obtain ⟨hl, a, cap, rfl, _, _⟩ := h'
 obtain ⟨n, hn⟩ := exq zss.length
 obtain ⟨w1, hw1⟩ := exq (w.alloc (.cells #[.int .i64 r] 3))
 have hb1 : Below w.heap.size w w1 := by rw [hw1]; exact (Below.refl _ _).alloc (Nat.le_refl _) _
 have hbx := heap_alloc_new w (.cells #[.int .i64 r] 3)
 rw [← hw1] at hbx
 have c0 : w1.cell? ⟨w.heap.size, 0, none⟩ = some (.int .i64 r) := by simpa using cell_of_heap hbx 0
 have hr1 := h.below hb1
 have hrank := gpRank w1 r
 have htot := progTotal w1 _ _ zss hr1 hs
 obtain ⟨T, hT⟩ := exq (totL zss)
 rw [← hT] at htot ⊢
 rw [← hn] at hl hr1 htot ⊢
 obtain ⟨A, hA⟩ := exq (allW r zss)
 have hcon := fun m => containsW_any (w1.drewN m) w.heap.size (.slice a n cap) zss r w.heap.size hr1 c0
 rw [← hA] at hcon ⊢
 replace hA := hidI hA
 replace hT := hidI hT
 replace hn := hidI hn
 replace hbx := hidI hbx
 replace h := hidI h
 replace hr1 := hidI hr1
 by_cases g1 : 1 ≤ r ∧ r ≤ 3
 · rw [decide_eq_true g1] at hrank ⊢
   replace g1 := hidI g1
   by_cases g2 : n ≤ 6
   · have g2d : decide ((6 : Int) < (n : Int)) = false := by rw [decide_eq_false_iff_not]; omega
     rw [decide_eq_true g2]
     by_cases g3 : T < 40
     · have g3d : decide ((T : Int) < 40) = true := by rw [decide_eq_true_eq]; omega
       have g3e : decide ((40 : Int) ≤ (T : Int)) = false := by rw [decide_eq_false_iff_not]; omega
       rw [decide_eq_true g3]
       go_enter Tryz.func136, Tryz.ntmps136
       go_upto_region 1 with fail
       rw [← hw1]
       replace hw1 := hidI hw1
       go_wp2_with fail
       refine hrank.mono ?_
       rintro e w2 ⟨rfl, rfl⟩
       clear hrank
       go_wp2_with fail
       refine htot.mono ?_
       rintro e w3 ⟨rfl, m3, rfl⟩
       clear htot
       go_wp2_with fail
       refine (hcon m3).mono ?_
       rintro e w4 ⟨rfl, m4, rfl⟩
       clear hcon
       go_wp2
       go_ret
       exact ⟨ret_bool (by simp), below_dn hb1 _⟩
     · have g3d : decide ((T : Int) < 40) = false := by rw [decide_eq_false_iff_not]; omega
       have g3e : decide ((40 : Int) ≤ (T : Int)) = true := by rw [decide_eq_true_eq]; omega
       rw [decide_eq_false g3]
       go_enter Tryz.func136, Tryz.ntmps136
       go_upto_region 1 with fail
       rw [← hw1]
       replace hw1 := hidI hw1
       go_wp2_with fail
       refine hrank.mono ?_
       rintro e w2 ⟨rfl, rfl⟩
       clear hrank
       go_wp2_with fail
       refine htot.mono ?_
       rintro e w3 ⟨rfl, m3, rfl⟩
       clear htot
       go_wp2
       go_ret
       exact ⟨ret_bool (by simp), below_dn hb1 _⟩
   · have g2d : decide ((6 : Int) < (n : Int)) = true := by rw [decide_eq_true_eq]; omega
     rw [decide_eq_false g2]
     go_enter Tryz.func136, Tryz.ntmps136
     go_upto_region 1 with fail
     rw [← hw1]
     replace hw1 := hidI hw1
     go_wp2_with fail
     refine hrank.mono ?_
     rintro e w2 ⟨rfl, rfl⟩
     clear hrank
     go_wp2
     go_ret
     exact ⟨ret_bool (by simp), hb1⟩
 · rw [decide_eq_false g1] at hrank ⊢
   replace g1 := hidI g1
   go_enter Tryz.func136, Tryz.ntmps136
   go_upto_region 1 with fail
   rw [← hw1]
   replace hw1 := hidI hw1
   go_wp2_with fail
   refine hrank.mono ?_
   rintro e w2 ⟨rfl, rfl⟩
   clear hrank
   go_wp2
   go_ret
   exact ⟨ret_bool (by simp), hb1⟩
end Go.Proofs.YtpjlamnjiilgbaaGreat
namespace Go.Proofs.YtpjlamnjiilgbaaGreat
open Go.RowKit
set_option linter.unusedVariables false
set_option linter.unusedSimpArgs false
def MSt (w : World) (X base : Nat) (r sz : Int) (v : Value) (E : List Ed) : Prop :=
 w.heap[X]? = some (.cells #[.int .i64 r, .int .i64 sz, v] 26 (0, 0)) ∧ ∃ lo hi, RowS 72 3 w lo hi v E.length (flatE E) ∧ base ≤ lo ∧ hi ≤ w.heap.size ∧ (hi ≤ X ∨ X < lo)
theorem MSt.sized {w : World} {X base : Nat} {r sz : Int} {v : Value} {E : List Ed} (h : MSt w X base r sz v E) (s' : Int) : MSt (w.setCell ⟨X, 1, none⟩ (.int .i64 s')) X base r s' v E := by
 obtain ⟨h1, lo, hi, h2, h3, h4, h5⟩ := h
 refine ⟨?_, lo, hi, h2.keep (fun k q1 q2 => Below.heap_setCell _ _ _ _ (show k ≠ X by omega)), h3, by simpa [World.setCell] using h4, h5⟩
 have := heap_setCell_same w X 1 _ _ (.int .i64 s') h1
 simpa using this
theorem MSt.put {w w' : World} {X base : Nat} {r sz : Int} {v v' : Value} {E E' : List Ed} (h : MSt w X base r sz v E) (hX : X < w.heap.size) (hb : Below w.heap.size w w') (hbase : base ≤ w.heap.size) (hr : RowS 72 3 w' w.heap.size w'.heap.size v' E'.length (flatE E')) :
 MSt (w'.setCell ⟨X, 2, none⟩ v') X base r sz v' E' := by
 obtain ⟨h1, lo, hi, h2, h3, h4, h5⟩ := h
 refine ⟨?_, w.heap.size, w'.heap.size, hr.keep (fun k q1 q2 => Below.heap_setCell _ _ _ _ (show k ≠ X by omega)), hbase, by simp [World.setCell], .inr hX⟩
 have hx : w'.heap[X]? = some (.cells #[.int .i64 r, .int .i64 sz, v] 26 (0, 0)) := by rw [hb.block X hX]; exact h1
 have := heap_setCell_same w' X 2 _ _ v' hx
 simpa using this
theorem MSt.form {w : World} {X base : Nat} {r sz : Int} {v : Value} {E : List Ed} (h : MSt w X base r sz v E) : ∃ a c, v = .slice a E.length c := by
 obtain ⟨_, lo, hi, ⟨_, _, ⟨h1, h2⟩ | ⟨g, off, cap, cur, h1, _⟩⟩, _⟩ := h
 · exact ⟨none, 0, by rw [h1, h2]⟩
 · exact ⟨_, _, h1⟩
theorem MSt.drew {w : World} {X base : Nat} {r sz : Int} {v : Value} {E : List Ed} (h : MSt w X base r sz v E) : MSt w.drew X base r sz v E := h
theorem MSt.read {w : World} {X base : Nat} {r sz : Int} {v : Value} {E : List Ed} (h : MSt w X base r sz v E) : ReadE w.heap.size w v E := by
 obtain ⟨h1, lo, hi, h2, h3, h4, h5⟩ := h
 exact h2.read.mono h4
theorem size_set3K {b : Nat} {w : World} {x0 x1 x2 : Value} : (((w.setCell ⟨b, 0, none⟩ x0).setCell ⟨b, 1, none⟩ x1).setCell ⟨b, 2, none⟩ x2).heap.size = w.heap.size := by simp [World.setCell]
theorem mst_fin {w w9 : World} {X R base cap : Nat} {r s' : Int} {E : List Ed} {b : Bool} {a : Option Addr} (hR : w.heap.size ≤ R) (hRX : R < base) (hbw : Below w.heap.size w w9) (h : MSt w9 X base r s' (.slice a E.length cap) E) :
 LwGraphBool w r s' E b (.returned (.tuple #[.agg #[.int .i64 r, .int .i64 s', .slice a E.length cap], .bool b])) (((w9.setCell ⟨R, 0, none⟩ (.int .i64 r)).setCell ⟨R, 1, none⟩ (.int .i64 s')).setCell ⟨R, 2, none⟩ (.slice a E.length cap)) := by
 obtain ⟨h1, lo, hi, h2, h3, h4, h5⟩ := h
 refine ⟨a, cap, rfl, ?_, below_set3 hbw hR⟩
 have hsz : (((w9.setCell ⟨R, 0, none⟩ (.int .i64 r)).setCell ⟨R, 1, none⟩ (.int .i64 s')).setCell ⟨R, 2, none⟩ (.slice a E.length cap)).heap.size = w9.heap.size := size_set3K
 have h9 : RowS 72 3 (((w9.setCell ⟨R, 0, none⟩ (.int .i64 r)).setCell ⟨R, 1, none⟩ (.int .i64 s')).setCell ⟨R, 2, none⟩ (.slice a E.length cap)) lo hi (.slice a E.length cap) E.length (flatE E) := h2.keep (fun k q1 q2 => by
  have hk : k ≠ R := by omega
  rw [Below.heap_setCell _ _ _ _ hk, Below.heap_setCell _ _ _ _ hk, Below.heap_setCell _ _ _ _ hk])
 exact h9.wide (by omega) (by rw [hsz]; exact h4)
theorem MSt.below {w w' : World} {X base : Nat} {r sz : Int} {v : Value} {E : List Ed} (h : MSt w X base r sz v E) (hX : X < w.heap.size) (hb : Below w.heap.size w w') : MSt w' X base r sz v E := by
 obtain ⟨h1, lo, hi, h2, h3, h4, h5⟩ := h
 exact ⟨by rw [hb.block X hX]; exact h1, lo, hi, h2.below hb h4, h3, Nat.le_trans h4 hb.size, h5⟩
end Go.Proofs.YtpjlamnjiilgbaaGreat
