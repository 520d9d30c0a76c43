/- Lists of words, the program: TotalLength, EqualWordLists, AreWords. -/
import Derived.Test.YtmafaglgegimfaaDoorSB
import Derived.Test.YtmafaglgegimfaaDoorWJ
import Derived.Test.YtmafaglgegimfaaDoorWH
import Derived.Deep.Cut
namespace Go.Proofs.YtmafaglgegimfaaDoor
open Go.RowKit
set_option linter.unusedVariables false
set_option linter.unusedSimpArgs false

set_option maxHeartbeats 1600000 in
theorem progTotal (w : World) (B : Nat) (v : Value) (zss : List (List Int)) (h : ReadSS B w v zss) (hs : totL zss ≤ 1000000000) :
    Calls Tryd.prog 26 #[v] w (TotRet w (totL zss : Nat)) := by
  have hs' : sumN (zss.map List.length) ≤ 1000000000 := hs
  have h' := h
  obtain ⟨hl, a, cap, rfl, _, _⟩ := h'
  obtain ⟨n, hn⟩ : ∃ n, n = zss.length := ⟨_, rfl⟩
  rw [← hn] at hl h
  replace hn := hidI hn
  replace h := hidI h
  go_enter Tryd.func26, Tryd.ntmps26
  rw [← hn.out]
  go_wp2
  go_loopg [3, 5, 8] n (fun g a x i wr => ∃ k : Nat, k + g = n ∧ i = .int .i64 k ∧ a = .int .i64 (sumN ((zss.map List.length).take k) : Nat) ∧ Hid (wr = w))
  case atStart => exact ⟨0, by omega, rfl, by simp [sumN], hidI rfl⟩
  case round =>
    obtain ⟨k, hk, rfl, rfl, hw⟩ := hrel
    by_cases hlt : k < n
    · have hki : (k : Int) < (n : Int) := by omega
      obtain ⟨b, off, u, rfl, hb, c, r⟩ := h.out.at_ k (by have := hn.out; omega)
      have hst := totL_take (zss := zss) (k := k) (by have := hn.out; omega)
      have hsl := sumN_le (zss.map List.length) (k + 1)
      obtain ⟨_, ai, ci, rfl, _, _⟩ := r
      obtain ⟨q, hq⟩ : ∃ q, q = sumN ((zss.map List.length).take k) := ⟨_, rfl⟩
      obtain ⟨x, hx⟩ : ∃ x, x = (zss.getD k []).length := ⟨_, rfl⟩
      rw [← hq, ← hx] at hst
      rw [← hx] at c
      have hqb : q + x ≤ 1000000000 := by omega
      have cw : wr.cell? ⟨b, off + k, none⟩ = some (.slice ai x ci) := by rw [hw.out]; exact c
      rw [← hq]
      replace hst := hidI hst
      replace hq := hidI hq
      replace hx := hidI hx
      replace hk := hidI hk
      clear c hsl
      go_wp2
      go_roundg (n - (k + 1))
      case rel => exact ⟨k + 1, by have := hk.out; omega, by go_num, by rw [hst.out]; try go_num, hw⟩
      case measure => have := hk.out; omega
    · obtain rfl : k = n := by omega
      have hki : ¬ (k : Int) < (k : Int) := by omega
      have hfull : (zss.map List.length).take k = zss.map List.length := List.take_of_length_le (by rw [List.length_map]; have := hn.out; omega)
      rw [hfull]
      replace hk := hidI hk
      replace hfull := hidI hfull
      go_wp2
      go_ret
      exact ⟨rfl, 0, hw.out⟩
/-! ### AreWords -/
theorem notWord_any (w : World) (B : Nat) (u : Value) (zs : List Int) (r : Int) (bx : Nat) (h : ReadI B w u zs) (hB : w.cell? ⟨bx, 0, none⟩ = some (.int .i64 r)) :
    Calls Tryd.prog 28 #[u, .pointer (some ⟨bx, 0, none⟩)] w (BoolRet w (!(isW r zs))) := by
  have hcall := isWord_any w B u zs r h
  obtain ⟨q, hq⟩ : ∃ q, q = isW r zs := ⟨_, rfl⟩
  rw [← hq] at hcall ⊢
  replace hq := hidI hq
  replace h := hidI h
  go_enter Tryd.func28, Tryd.ntmps28
  go_wp2_with fail
  refine hcall.mono ?_
  rintro e w1 ⟨rfl, n, rfl⟩
  clear hcall
  go_wp2
  go_ret
  exact ⟨rfl, n, rfl⟩
/-- Has each of these been read as a word? -/
def allW (r : Int) (zss : List (List Int)) : Bool := decide (∀ i, i < zss.length → isW r (zss.getD i []) = true)
def IdxRet (w : World) (q : Bool) (e : Ending) (w' : World) : Prop := ∃ (z : Int) (m : Nat), e = .returned (.int .i64 z) ∧ decide (0 ≤ z) = q ∧ w' = w.drewN m
set_option maxHeartbeats 1600000 in
theorem indexW_any (w : World) (B : Nat) (v : Value) (zss : List (List Int)) (r : Int) (bx : Nat) (h : ReadSS B w v zss) (hB : w.cell? ⟨bx, 0, none⟩ = some (.int .i64 r)) :
    Calls Tryd.prog 35 #[v, .func (.func 28) #[] #[.pointer (some ⟨bx, 0, none⟩)]] w
      (IdxRet w (!(allW r zss))) := by
  have h' := h
  obtain ⟨hl, a, cap, rfl, _, _⟩ := h'
  obtain ⟨n, hn⟩ : ∃ n, n = zss.length := ⟨_, rfl⟩
  rw [← hn] at hl h
  replace hn := hidI hn
  replace h := hidI h
  go_enter Tryd.func35, Tryd.ntmps35
  rw [← hn.out]
  go_wp2
  go_loopg [5, 8] n (fun g x i wr => ∃ k m : Nat, k + g = n ∧ i = .int .i64 k ∧ Hid (∀ j, j < k → isW r (zss.getD j []) = true) ∧ Hid (wr = w.drewN m))
  case atStart => exact ⟨0, 0, by omega, rfl, hidI (fun j h => by omega), hidI rfl⟩
  case round =>
    obtain ⟨k, m, hk, rfl, heq, hw⟩ := hrel
    by_cases hlt : k < n
    · have hki : (k : Int) < (n : Int) := by omega
      obtain ⟨b, off, u, rfl, hb, c, r0⟩ := h.out.at_ k (by have := hn.out; omega)
      have cw : wr.cell? ⟨b, off + k, none⟩ = some u := by rw [hw.out]; exact c
      have hcall := notWord_any wr B u (zss.getD k []) r bx (by rw [hw.out]; exact r0) (by rw [hw.out]; exact hB)
      clear c r0
      replace hk := hidI hk
      by_cases he : isW r (zss.getD k []) = true
      · rw [he] at hcall
        have hnx : Hid (∀ j, j < k + 1 → isW r (zss.getD j []) = true) := hidI fun j hj => by
          by_cases e : j = k
          · subst e; exact he
          · exact heq.out j (by omega)
        replace he := hidI he
        replace hnx := hidI hnx
        go_wp2_with fail
        refine hcall.mono ?_
        rintro e w3 ⟨rfl, m3, rfl⟩
        clear hcall
        go_wp2
        go_roundg (n - (k + 1))
        case rel => exact ⟨k + 1, m + m3, by have := hk.out; omega, by go_num, hnx.out, hidI (by rw [hw.out, World.drewN_drewN])⟩
        case measure => have := hk.out; omega
      · have he' : isW r (zss.getD k []) = false := by simpa using he
        rw [he'] at hcall
        have hall : decide ((0 : Int) ≤ (k : Int)) = !(allW r zss) := by
          have h1 : allW r zss = false := by
            unfold allW
            rw [decide_eq_false_iff_not]
            intro hh
            exact he (hh k (by have := hn.out; omega))
          rw [h1]; simp
        replace he := hidI he
        replace he' := hidI he'
        replace hall := hidI hall
        go_wp2_with fail
        refine hcall.mono ?_
        rintro e w3 ⟨rfl, m3, rfl⟩
        clear hcall
        go_wp2
        go_ret
        exact ⟨k, m + m3, rfl, hall.out, by rw [hw.out, World.drewN_drewN]⟩
    · obtain rfl : k = n := by omega
      have hki : ¬ (k : Int) < (k : Int) := by omega
      have hall : decide ((0 : Int) ≤ -1) = !(allW r zss) := by
        have h1 : allW r zss = true := by
          unfold allW
          rw [decide_eq_true_eq]
          exact fun i hi => heq.out i (by have := hn.out; omega)
        rw [h1]; rfl
      replace hall := hidI hall
      replace hk := hidI hk
      go_wp2
      go_ret
      exact ⟨-1, m, rfl, hall.out, hw.out⟩
theorem containsW_any (w : World) (B : Nat) (v : Value) (zss : List (List Int)) (r : Int) (bx : Nat) (h : ReadSS B w v zss) (hB : w.cell? ⟨bx, 0, none⟩ = some (.int .i64 r)) :
    Calls Tryd.prog 27 #[v, .func (.func 28) #[] #[.pointer (some ⟨bx, 0, none⟩)]] w (BoolRet w (!(allW r zss))) := by
  have hcall := indexW_any w B v zss r bx h hB
  obtain ⟨q, hq⟩ : ∃ q, q = !(allW r zss) := ⟨_, rfl⟩
  rw [← hq] at hcall ⊢
  replace hq := hidI hq
  replace h := hidI h
  go_enter Tryd.func27, Tryd.ntmps27
  go_wp2_with fail
  refine hcall.mono ?_
  rintro e w1 ⟨z, n, rfl, hz, rfl⟩
  clear hcall
  go_wp2
  go_ret
  exact ⟨ret_bool rfl, n, rfl⟩
theorem arew_parts (r : Int) (zss : List (List Int)) : arew r zss = (decide (1 ≤ r ∧ r ≤ 3) && decide (zss.length ≤ 6) && decide (totL zss < 40) && allW r zss) := by
  unfold arew allW
  rw [← Bool.decide_and, ← Bool.decide_and, ← Bool.decide_and]
  congr 1
  rw [eq_iff_iff]
  constructor
  · rintro ⟨h1, h2, h3, h4, h5⟩; exact ⟨⟨⟨⟨h2, h3⟩, h4⟩, h5⟩, h1⟩
  · rintro ⟨⟨⟨⟨h2, h3⟩, h4⟩, h5⟩, h1⟩; exact ⟨h1, h2, h3, h4, h5⟩
set_option maxHeartbeats 3200000 in
theorem progAreW (w : World) (v : Value) (zss : List (List Int)) (r : Int) (h : ReadSS w.heap.size w v zss) (hs : totL zss ≤ 1000000000) :
    Calls Tryd.prog 15 #[.int .i64 r, v] w (LwBool w (arew r zss)) := by
  rw [arew_parts]
  have h' := h
  obtain ⟨hl, a, cap, rfl, _, _⟩ := h'
  obtain ⟨n, hn⟩ : ∃ n, n = zss.length := ⟨_, rfl⟩
  obtain ⟨w1, hw1⟩ : ∃ z, z = w.alloc (.cells #[.int .i64 r] 3) := ⟨_, rfl⟩
  have hb1 : Below w.heap.size w w1 := by rw [hw1]; exact (Below.refl _ _).alloc (Nat.le_refl _) _
  have hbx := heap_alloc_new w (.cells #[.int .i64 r] 3)
  rw [← hw1] at hbx
  have c0 : w1.cell? ⟨w.heap.size, 0, none⟩ = some (.int .i64 r) := by simpa using cell_of_heap hbx 0
  have hr1 := h.below hb1
  have hrank := gpRank w1 r
  have htot := progTotal w1 _ _ zss hr1 hs
  obtain ⟨T, hT⟩ : ∃ T, T = totL zss := ⟨_, rfl⟩
  rw [← hT] at htot ⊢
  rw [← hn] at hl hr1 htot ⊢
  obtain ⟨A, hA⟩ : ∃ A, A = allW r zss := ⟨_, rfl⟩
  have hcon := fun m => containsW_any (w1.drewN m) w.heap.size (.slice a n cap) zss r w.heap.size hr1 c0
  rw [← hA] at hcon ⊢
  replace hA := hidI hA
  replace hT := hidI hT
  replace hn := hidI hn
  replace hbx := hidI hbx
  replace h := hidI h
  replace hr1 := hidI hr1
  by_cases g1 : 1 ≤ r ∧ r ≤ 3
  · rw [decide_eq_true g1] at hrank ⊢
    replace g1 := hidI g1
    by_cases g2 : n ≤ 6
    · have g2d : decide ((6 : Int) < (n : Int)) = false := by rw [decide_eq_false_iff_not]; omega
      rw [decide_eq_true g2]
      by_cases g3 : T < 40
      · have g3d : decide ((T : Int) < 40) = true := by rw [decide_eq_true_eq]; omega
        have g3e : decide ((40 : Int) ≤ (T : Int)) = false := by rw [decide_eq_false_iff_not]; omega
        rw [decide_eq_true g3]
        go_enter Tryd.func15, Tryd.ntmps15
        go_upto_region 1 with fail
        rw [← hw1]
        replace hw1 := hidI hw1
        go_wp2_with fail
        refine hrank.mono ?_
        rintro e w2 ⟨rfl, rfl⟩
        clear hrank
        go_wp2_with fail
        refine htot.mono ?_
        rintro e w3 ⟨rfl, m3, rfl⟩
        clear htot
        go_wp2_with fail
        refine (hcon m3).mono ?_
        rintro e w4 ⟨rfl, m4, rfl⟩
        clear hcon
        go_wp2
        go_ret
        exact ⟨ret_bool (by simp), below_dn hb1 _⟩
      · have g3d : decide ((T : Int) < 40) = false := by rw [decide_eq_false_iff_not]; omega
        have g3e : decide ((40 : Int) ≤ (T : Int)) = true := by rw [decide_eq_true_eq]; omega
        rw [decide_eq_false g3]
        go_enter Tryd.func15, Tryd.ntmps15
        go_upto_region 1 with fail
        rw [← hw1]
        replace hw1 := hidI hw1
        go_wp2_with fail
        refine hrank.mono ?_
        rintro e w2 ⟨rfl, rfl⟩
        clear hrank
        go_wp2_with fail
        refine htot.mono ?_
        rintro e w3 ⟨rfl, m3, rfl⟩
        clear htot
        go_wp2
        go_ret
        exact ⟨ret_bool (by simp), below_dn hb1 _⟩
    · have g2d : decide ((6 : Int) < (n : Int)) = true := by rw [decide_eq_true_eq]; omega
      rw [decide_eq_false g2]
      go_enter Tryd.func15, Tryd.ntmps15
      go_upto_region 1 with fail
      rw [← hw1]
      replace hw1 := hidI hw1
      go_wp2_with fail
      refine hrank.mono ?_
      rintro e w2 ⟨rfl, rfl⟩
      clear hrank
      go_wp2
      go_ret
      exact ⟨ret_bool (by simp), hb1⟩
  · rw [decide_eq_false g1] at hrank ⊢
    replace g1 := hidI g1
    go_enter Tryd.func15, Tryd.ntmps15
    go_upto_region 1 with fail
    rw [← hw1]
    replace hw1 := hidI hw1
    go_wp2_with fail
    refine hrank.mono ?_
    rintro e w2 ⟨rfl, rfl⟩
    clear hrank
    go_wp2
    go_ret
    exact ⟨ret_bool (by simp), hb1⟩
end Go.Proofs.YtmafaglgegimfaaDoor
