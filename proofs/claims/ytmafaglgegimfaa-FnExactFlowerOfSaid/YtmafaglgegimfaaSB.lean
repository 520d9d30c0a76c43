/- Lists of words, the model: TotalLength, EqualWordLists, AreWords (tools/sb.py). -/
import Derived.Test.YtmafaglgegimfaaSA
import Derived.Test.YtmafaglgegimfaaWSE
import Derived.Test.YtmafaglgegimfaaWS6
import Derived.Test.YtmafaglgegimfaaGS1
import Derived.Test.YtmafaglgegimfaaLW2
namespace Go.Proofs.Ytmafaglgegimfaa
open Go.RowKit
set_option linter.unusedVariables false
set_option linter.unusedSimpArgs false

/-- What a function leaves that hands back an int and writes nothing. -/
def TotRet (w : World) (n : Int) (e : Ending) (w' : World) : Prop := e = .returned (.int .i64 n) ∧ ∃ m, w' = w.drewN m
theorem LwInt.of_drawn {w w' : World} {n : Int} {e : Ending} (h : TotRet w n e w') : LwInt w n e w' := by
  obtain ⟨he, n, hw⟩ := h
  exact ⟨he, by rw [hw]; exact below_dn (Below.refl _ _) n⟩
/-- Go's sum of the lengths. -/
abbrev totL (zss : List (List Int)) : Nat := sumN (zss.map List.length)
theorem totL_take {zss : List (List Int)} {k : Nat} (h : k < zss.length) : sumN ((zss.map List.length).take (k + 1)) = sumN ((zss.map List.length).take k) + (zss.getD k []).length := by
  rw [sumN_take _ _ (by rw [List.length_map]; exact h), getD_map_len]
set_option maxHeartbeats 1600000 in
theorem specTotal (w : World) (B : Nat) (v : Value) (zss : List (List Int)) (h : ReadSS B w v zss) (hs : totL zss ≤ 1000000000) :
    Calls Try.prog 34 #[v] w (TotRet w (totL zss : Nat)) := by
  have hs' : sumN (zss.map List.length) ≤ 1000000000 := hs
  have h' := h
  obtain ⟨hl, a, cap, rfl, _, _⟩ := h'
  obtain ⟨n, hn⟩ : ∃ n, n = zss.length := ⟨_, rfl⟩
  rw [← hn] at hl h
  replace hn := hidI hn
  replace h := hidI h
  go_enter Try.func34, Try.ntmps34
  rw [← hn.out]
  go_wp2
  go_loopg [3, 4] n (fun g a i wr => ∃ k m : Nat, k + g = n ∧ i = .int .i64 k ∧ a = .int .i64 (sumN ((zss.map List.length).take k) : Nat) ∧ Hid (wr = w.drewN m))
  case atStart => exact ⟨0, 0, by omega, rfl, by simp [sumN], hidI rfl⟩
  case round =>
    obtain ⟨k, m, hk, rfl, rfl, hw⟩ := hrel
    by_cases hlt : k < n
    · have hki : (k : Int) < (n : Int) := by omega
      obtain ⟨b, off, u, rfl, hb, c, r⟩ := h.out.at_ k (by have := hn.out; omega)
      have hst := totL_take (zss := zss) (k := k) (by have := hn.out; omega)
      have hsl := sumN_le (zss.map List.length) (k + 1)
      obtain ⟨_, ai, ci, rfl, _, _⟩ := r
      obtain ⟨q, hq⟩ : ∃ q, q = sumN ((zss.map List.length).take k) := ⟨_, rfl⟩
      obtain ⟨x, hx⟩ : ∃ x, x = (zss.getD k []).length := ⟨_, rfl⟩
      rw [← hq, ← hx] at hst
      rw [← hx] at c
      have hqb : q + x ≤ 1000000000 := by omega
      have cw : wr.cell? ⟨b, off + k, none⟩ = some (.slice ai x ci) := by rw [hw.out]; exact c
      rw [← hq]
      replace hst := hidI hst
      replace hq := hidI hq
      replace hx := hidI hx
      replace hk := hidI hk
      clear c hsl
      go_wp2
      go_roundg (n - (k + 1))
      case rel => exact ⟨k + 1, m, by have := hk.out; omega, by go_num, by rw [hst.out]; try go_num, hw⟩
      case measure => have := hk.out; omega
    · obtain rfl : k = n := by omega
      have hki : ¬ (k : Int) < (k : Int) := by omega
      have hfull : (zss.map List.length).take k = zss.map List.length := List.take_of_length_le (by rw [List.length_map]; have := hn.out; omega)
      rw [hfull]
      replace hk := hidI hk
      replace hfull := hidI hfull
      go_wp2
      go_ret
      exact ⟨rfl, m, hw.out⟩
set_option maxHeartbeats 3200000 in
theorem specEqSS (w : World) (B : Nat) (v1 v2 : Value) (zs1 zs2 : List (List Int)) (h1 : ReadSS B w v1 zs1) (h2 : ReadSS B w v2 zs2) :
    Calls Try.prog 38 #[v1, v2] w (BoolRet w (decide (zs1 = zs2))) := by
  have h1' := h1
  have h2' := h2
  obtain ⟨hl1, a1, cap1, rfl, _, _⟩ := h1'
  obtain ⟨hl2, a2, cap2, rfl, _, _⟩ := h2'
  by_cases hlen : zs1.length = zs2.length
  · obtain ⟨n, hn⟩ : ∃ n, n = zs1.length := ⟨_, rfl⟩
    have hn2 : n = zs2.length := by omega
    rw [← hn2] at hl2 h2
    rw [← hn] at hl1 h1
    have hcl : ((n : Int) != (n : Int)) = false := by simp
    clear hlen
    replace hn := hidI hn
    replace hn2 := hidI hn2
    replace h1 := hidI h1
    replace h2 := hidI h2
    go_enter Try.func38, Try.ntmps38
    rw [← hn.out, ← hn2.out]
    go_wp2
    go_loopg [5] n (fun g i wr => ∃ k m : Nat, k + g = n ∧ i = .int .i64 k ∧ Hid (∀ j, j < k → zs1.getD j [] = zs2.getD j []) ∧ Hid (wr = w.drewN m))
    case atStart => exact ⟨0, 0, by omega, rfl, hidI (fun j h => by omega), hidI rfl⟩
    case round =>
      obtain ⟨k, m, hk, rfl, heq, hw⟩ := hrel
      by_cases hlt : k < n
      · have hki : (k : Int) < (n : Int) := by omega
        obtain ⟨b1, o1, u1, rfl, hb1, c1, r1⟩ := h1.out.at_ k (by have := hn.out; omega)
        obtain ⟨b2, o2, u2, rfl, hb2, c2, r2⟩ := h2.out.at_ k (by have := hn2.out; omega)
        obtain ⟨wd, hwd⟩ : ∃ z, z = wr.drew := ⟨_, rfl⟩
        have hwd2 : wd = w.drewN (m + 1) := by rw [hwd, hw.out]; rfl
        have d0 : wd.cell? ⟨b1, o1 + k, none⟩ = some u1 := by rw [hwd2]; exact c1
        have d1 : wd.cell? ⟨b2, o2 + k, none⟩ = some u2 := by rw [hwd2]; exact c2
        have hcall := specEqu wd B u1 u2 (zs1.getD k []) (zs2.getD k []) (by rw [hwd2]; exact r1) (by rw [hwd2]; exact r2)
        replace hwd := hidI hwd
        replace hwd2 := hidI hwd2
        replace hk := hidI hk
        clear c1 c2 r1 r2
        by_cases he : zs1.getD k [] = zs2.getD k []
        · rw [decide_eq_true he] at hcall
          have hnx : Hid (∀ j, j < k + 1 → zs1.getD j [] = zs2.getD j []) := hidI fun j hj => by
            by_cases e : j = k
            · subst e; exact he
            · exact heq.out j (by omega)
          replace he := hidI he
          go_wp2
          refine hideQ (fun _ _ d _ _ h => by cases d <;> exact h) (fun Q' hnorm hpan => ?_)
          refine wp_region_held_drew (S := (fun z => z.cell? ⟨b1, o1 + k, none⟩ = some u1 ∧ z.cell? ⟨b2, o2 + k, none⟩ = some u2)) (by kernel_rfl) ?_ (fun hHeld => ?_)
          · try dsimp only
            rw [← hwd.out]
            ((repeat' apply And.intro) <;> assumption)
          rw [← hwd.out] at hHeld ⊢
          refine take_at 0 17 (v := ?_) rfl (by kernel_rfl) (by kernel_rfl) (by kernel_rfl) (by kernel_rfl) hpan (Or.inl ⟨by rfl, ?_⟩) (by assumption) ?_
          rotate_left
          · intro w hSw; (try dsimp only at hSw); go_simp; with_reducible rfl
          simp only [Act.put, List.setIfInBounds_toArray, List.set_cons_zero, List.set_cons_succ]
          refine take_at 1 18 (v := ?_) rfl (by kernel_rfl) (by kernel_rfl) (by kernel_rfl) (by kernel_rfl) hpan (Or.inl ⟨by rfl, ?_⟩) (by assumption) ?_
          rotate_left
          · intro w hSw; (try dsimp only at hSw); go_simp; with_reducible rfl
          simp only [Act.put, List.setIfInBounds_toArray, List.set_cons_zero, List.set_cons_succ]
          refine take_at 2 19 (v := ?_) rfl (by kernel_rfl) (by kernel_rfl) (by kernel_rfl) (by kernel_rfl) hpan (Or.inl ⟨by rfl, ?_⟩) (by assumption) ?_
          rotate_left
          · intro w hSw; (try dsimp only at hSw); go_simp; with_reducible rfl
          simp only [Act.put, List.setIfInBounds_toArray, List.set_cons_zero, List.set_cons_succ]
          refine take_at 3 20 (v := ?_) rfl (by kernel_rfl) (by kernel_rfl) (by kernel_rfl) (by kernel_rfl) hpan (Or.inl ⟨by rfl, ?_⟩) (by assumption) ?_
          rotate_left
          · intro w hSw; (try dsimp only at hSw); go_simp; with_reducible rfl
          simp only [Act.put, List.setIfInBounds_toArray, List.set_cons_zero, List.set_cons_succ]
          refine take_at 4 21 (v := ?_) rfl (by kernel_rfl) (by kernel_rfl) (by kernel_rfl) (by kernel_rfl) hpan (Or.inl ⟨by rfl, ?_⟩) (by assumption) ?_
          rotate_left
          · intro w hSw; (try dsimp only at hSw); go_simp; with_reducible rfl
          simp only [Act.put, List.setIfInBounds_toArray, List.set_cons_zero, List.set_cons_succ]
          refine take_at 5 22 (v := ?_) rfl (by kernel_rfl) (by kernel_rfl) (by kernel_rfl) (by kernel_rfl) hpan (Or.inl ⟨by rfl, ?_⟩) (by assumption) ?_
          rotate_left
          · intro w hSw; (try dsimp only at hSw); go_simp; with_reducible rfl
          simp only [Act.put, List.setIfInBounds_toArray, List.set_cons_zero, List.set_cons_succ]
          refine take_at 6 23 (v := ?_) rfl (by kernel_rfl) (by kernel_rfl) (by kernel_rfl) (by kernel_rfl) hpan (Or.inl ⟨by rfl, ?_⟩) (by assumption) ?_
          rotate_left
          · intro w hSw; (try dsimp only at hSw); go_simp; with_reducible rfl
          simp only [Act.put, List.setIfInBounds_toArray, List.set_cons_zero, List.set_cons_succ]
          refine take_at 7 24 (v := ?_) rfl (by kernel_rfl) (by kernel_rfl) (by kernel_rfl) (by kernel_rfl) hpan (Or.inl ⟨by rfl, ?_⟩) (by assumption) ?_
          rotate_left
          · intro w hSw; (try dsimp only at hSw); go_simp; with_reducible rfl
          simp only [Act.put, List.setIfInBounds_toArray, List.set_cons_zero, List.set_cons_succ]
          refine wpAnyH_ready (rs := [8]) (by kernel_rfl) (by simp) ?_
          refine AllReadyH.cons rfl (fun K hK => ?_) AllReadyH.nil
          rw [if_pos (by rfl)]
          go_simp
          go_at_call 75
          (with_reducible refine hcall.mono ?_)
          rintro e w3 ⟨rfl, m3, rfl⟩
          have f0 : (wd.drewN m3).cell? ⟨b1, o1 + k, none⟩ = some u1 := d0
          have f1 : (wd.drewN m3).cell? ⟨b2, o2 + k, none⟩ = some u2 := d1
          refine hK.out _ _ ?_ (fun hHeld => ?_)
          · try dsimp only
            ((repeat' apply And.intro) <;> assumption)
          clear hK
          try simp only [Act.put, List.setIfInBounds_toArray, List.set_cons_zero, List.set_cons_succ]
          refine take_at 9 26 (v := ?_) rfl (by kernel_rfl) (by kernel_rfl) (by kernel_rfl) (by kernel_rfl) hpan (Or.inl ⟨by rfl, ?_⟩) (by assumption) ?_
          rotate_left
          · intro w hSw; (try dsimp only at hSw); go_simp; with_reducible rfl
          simp only [Act.put, List.setIfInBounds_toArray, List.set_cons_zero, List.set_cons_succ]
          refine wpAnyH_done (by kernel_rfl) ?_ _
          refine hnorm _ _ ?_
          clear hnorm hpan
          repeat clear hHeld
          try simp only [Exit.then]
          go_wp2
          go_roundg (n - (k + 1))
          case rel => exact ⟨k + 1, m + 1 + m3, by have := hk.out; omega, by go_num, hnx, hidI (by rw [hwd2.out, World.drewN_drewN])⟩
          case measure => have := hk.out; omega
        · rw [decide_eq_false he] at hcall
          have hd : decide (zs1 = zs2) = false := by
            rw [decide_eq_false_iff_not]
            intro e
            rw [e] at he
            exact he rfl
          replace hd := hidI hd
          replace he := hidI he
          go_wp2
          refine hideQ (fun _ _ d _ _ h => by cases d <;> exact h) (fun Q' hnorm hpan => ?_)
          refine wp_region_held_drew (S := (fun z => z.cell? ⟨b1, o1 + k, none⟩ = some u1 ∧ z.cell? ⟨b2, o2 + k, none⟩ = some u2)) (by kernel_rfl) ?_ (fun hHeld => ?_)
          · try dsimp only
            rw [← hwd.out]
            ((repeat' apply And.intro) <;> assumption)
          rw [← hwd.out] at hHeld ⊢
          refine take_at 0 17 (v := ?_) rfl (by kernel_rfl) (by kernel_rfl) (by kernel_rfl) (by kernel_rfl) hpan (Or.inl ⟨by rfl, ?_⟩) (by assumption) ?_
          rotate_left
          · intro w hSw; (try dsimp only at hSw); go_simp; with_reducible rfl
          simp only [Act.put, List.setIfInBounds_toArray, List.set_cons_zero, List.set_cons_succ]
          refine take_at 1 18 (v := ?_) rfl (by kernel_rfl) (by kernel_rfl) (by kernel_rfl) (by kernel_rfl) hpan (Or.inl ⟨by rfl, ?_⟩) (by assumption) ?_
          rotate_left
          · intro w hSw; (try dsimp only at hSw); go_simp; with_reducible rfl
          simp only [Act.put, List.setIfInBounds_toArray, List.set_cons_zero, List.set_cons_succ]
          refine take_at 2 19 (v := ?_) rfl (by kernel_rfl) (by kernel_rfl) (by kernel_rfl) (by kernel_rfl) hpan (Or.inl ⟨by rfl, ?_⟩) (by assumption) ?_
          rotate_left
          · intro w hSw; (try dsimp only at hSw); go_simp; with_reducible rfl
          simp only [Act.put, List.setIfInBounds_toArray, List.set_cons_zero, List.set_cons_succ]
          refine take_at 3 20 (v := ?_) rfl (by kernel_rfl) (by kernel_rfl) (by kernel_rfl) (by kernel_rfl) hpan (Or.inl ⟨by rfl, ?_⟩) (by assumption) ?_
          rotate_left
          · intro w hSw; (try dsimp only at hSw); go_simp; with_reducible rfl
          simp only [Act.put, List.setIfInBounds_toArray, List.set_cons_zero, List.set_cons_succ]
          refine take_at 4 21 (v := ?_) rfl (by kernel_rfl) (by kernel_rfl) (by kernel_rfl) (by kernel_rfl) hpan (Or.inl ⟨by rfl, ?_⟩) (by assumption) ?_
          rotate_left
          · intro w hSw; (try dsimp only at hSw); go_simp; with_reducible rfl
          simp only [Act.put, List.setIfInBounds_toArray, List.set_cons_zero, List.set_cons_succ]
          refine take_at 5 22 (v := ?_) rfl (by kernel_rfl) (by kernel_rfl) (by kernel_rfl) (by kernel_rfl) hpan (Or.inl ⟨by rfl, ?_⟩) (by assumption) ?_
          rotate_left
          · intro w hSw; (try dsimp only at hSw); go_simp; with_reducible rfl
          simp only [Act.put, List.setIfInBounds_toArray, List.set_cons_zero, List.set_cons_succ]
          refine take_at 6 23 (v := ?_) rfl (by kernel_rfl) (by kernel_rfl) (by kernel_rfl) (by kernel_rfl) hpan (Or.inl ⟨by rfl, ?_⟩) (by assumption) ?_
          rotate_left
          · intro w hSw; (try dsimp only at hSw); go_simp; with_reducible rfl
          simp only [Act.put, List.setIfInBounds_toArray, List.set_cons_zero, List.set_cons_succ]
          refine take_at 7 24 (v := ?_) rfl (by kernel_rfl) (by kernel_rfl) (by kernel_rfl) (by kernel_rfl) hpan (Or.inl ⟨by rfl, ?_⟩) (by assumption) ?_
          rotate_left
          · intro w hSw; (try dsimp only at hSw); go_simp; with_reducible rfl
          simp only [Act.put, List.setIfInBounds_toArray, List.set_cons_zero, List.set_cons_succ]
          refine wpAnyH_ready (rs := [8]) (by kernel_rfl) (by simp) ?_
          refine AllReadyH.cons rfl (fun K hK => ?_) AllReadyH.nil
          rw [if_pos (by rfl)]
          go_simp
          go_at_call 75
          (with_reducible refine hcall.mono ?_)
          rintro e w3 ⟨rfl, m3, rfl⟩
          have f0 : (wd.drewN m3).cell? ⟨b1, o1 + k, none⟩ = some u1 := d0
          have f1 : (wd.drewN m3).cell? ⟨b2, o2 + k, none⟩ = some u2 := d1
          refine hK.out _ _ ?_ (fun hHeld => ?_)
          · try dsimp only
            ((repeat' apply And.intro) <;> assumption)
          clear hK
          try simp only [Act.put, List.setIfInBounds_toArray, List.set_cons_zero, List.set_cons_succ]
          refine take_at 9 26 (v := ?_) rfl (by kernel_rfl) (by kernel_rfl) (by kernel_rfl) (by kernel_rfl) hpan (Or.inl ⟨by rfl, ?_⟩) (by assumption) ?_
          rotate_left
          · intro w hSw; (try dsimp only at hSw); go_simp; with_reducible rfl
          simp only [Act.put, List.setIfInBounds_toArray, List.set_cons_zero, List.set_cons_succ]
          refine wpAnyH_done (by kernel_rfl) ?_ _
          refine hnorm _ _ ?_
          clear hnorm hpan
          repeat clear hHeld
          try simp only [Exit.then]
          go_wp2
          go_ret
          exact ⟨ret_bool hd.out.symm, m + 1 + m3, by rw [hwd2.out, World.drewN_drewN]⟩
      · obtain rfl : k = n := by omega
        have hd : decide (zs1 = zs2) = true := by
          rw [decide_eq_true_eq]
          refine List.ext_getElem (by have := hn.out; have := hn2.out; omega) (fun i h1 h2 => ?_)
          have := heq.out i (by have := hn.out; omega)
          simpa [List.getD_eq_getElem?_getD, h1, h2] using this
        have hki : ¬ (k : Int) < (k : Int) := by omega
        replace hd := hidI hd
        replace hk := hidI hk
        go_wp2
        go_ret
        exact ⟨ret_bool hd.out.symm, m, hw.out⟩
  · have hc : ((zs1.length : Int) != (zs2.length : Int)) = true := by rw [bne_iff_ne]; omega
    have hd : decide (zs1 = zs2) = false := by
      rw [decide_eq_false_iff_not]
      intro e
      exact hlen (by rw [e])
    rw [hd]
    replace hlen := hidI hlen
    replace hd := hidI hd
    replace h1 := hidI h1
    replace h2 := hidI h2
    go_enter Try.func38, Try.ntmps38
    go_wp2
    go_ret
    exact ⟨rfl, 0, rfl⟩
/-- Are these the words of a flower? -/
def arew (r : Int) (zss : List (List Int)) : Bool := decide ((∀ i, i < zss.length → isW r (zss.getD i []) = true) ∧ 1 ≤ r ∧ r ≤ 3 ∧ zss.length ≤ 6 ∧ totL zss < 40)
theorem arew_bad {r : Int} {zss : List (List Int)} {i : Nat} (hi : i < zss.length) (h : isW r (zss.getD i []) = false) : arew r zss = false := by
  unfold arew
  rw [decide_eq_false_iff_not]
  intro hh
  rw [hh.1 i hi] at h
  cases h
theorem arew_end {r : Int} {zss : List (List Int)} (h : ∀ i, i < zss.length → isW r (zss.getD i []) = true) : arew r zss = decide (1 ≤ r ∧ r ≤ 3 ∧ zss.length ≤ 6 ∧ totL zss < 40) := by
  unfold arew
  congr 1
  rw [eq_iff_iff]
  exact ⟨fun h => h.2, fun h' => ⟨h, h'⟩⟩
set_option maxHeartbeats 3200000 in
theorem specAreW (w : World) (B : Nat) (v : Value) (zss : List (List Int)) (r : Int) (h : ReadSS B w v zss) (hs : totL zss ≤ 1000000000) :
    Calls Try.prog 21 #[.int .i64 r, v] w (BoolRet w (arew r zss)) := by
  have h' := h
  obtain ⟨hl, a, cap, rfl, _, _⟩ := h'
  have hl0 := h
  obtain ⟨n, hn⟩ : ∃ n, n = zss.length := ⟨_, rfl⟩
  rw [← hn] at hl h hl0
  replace hn := hidI hn
  replace h := hidI h
  replace hl0 := hidI hl0
  go_enter Try.func21, Try.ntmps21
  rw [← hn.out]
  go_wp2
  go_loopg [5] n (fun g i wr => ∃ k m : Nat, k + g = n ∧ i = .int .i64 k ∧ Hid (∀ j, j < k → isW r (zss.getD j []) = true) ∧ Hid (wr = w.drewN m))
  case atStart => exact ⟨0, 0, by omega, rfl, hidI (fun j h => by omega), hidI rfl⟩
  case round =>
    obtain ⟨k, m, hk, rfl, heq, hw⟩ := hrel
    by_cases hlt : k < n
    · have hki : (k : Int) < (n : Int) := by omega
      obtain ⟨b, off, u, rfl, hb, c, r0⟩ := h.out.at_ k (by have := hn.out; omega)
      have cw : wr.cell? ⟨b, off + k, none⟩ = some u := by rw [hw.out]; exact c
      have hcall := specIsW wr B u (zss.getD k []) r (by rw [hw.out]; exact r0)
      clear c r0
      replace hk := hidI hk
      by_cases he : isW r (zss.getD k []) = true
      · rw [he] at hcall
        have hnx : Hid (∀ j, j < k + 1 → isW r (zss.getD j []) = true) := hidI fun j hj => by
          by_cases e : j = k
          · subst e; exact he
          · exact heq.out j (by omega)
        replace he := hidI he
        go_wp2_with fail
        refine hcall.mono ?_
        rintro e w3 ⟨rfl, m3, rfl⟩
        clear hcall
        go_wp2
        go_roundg (n - (k + 1))
        case rel => exact ⟨k + 1, m + m3, by have := hk.out; omega, by go_num, hnx, hidI (by rw [hw.out, World.drewN_drewN])⟩
        case measure => have := hk.out; omega
      · have he' : isW r (zss.getD k []) = false := by simpa using he
        rw [he'] at hcall
        have hbad := arew_bad (r := r) (by have := hn.out; omega) he'
        replace hbad := hidI hbad
        replace he := hidI he
        replace he' := hidI he'
        go_wp2_with fail
        refine hcall.mono ?_
        rintro e w3 ⟨rfl, m3, rfl⟩
        clear hcall
        go_wp2
        go_ret
        exact ⟨ret_bool hbad.out.symm, m + m3, by rw [hw.out, World.drewN_drewN]⟩
    · obtain rfl : k = n := by omega
      have hki : ¬ (k : Int) < (k : Int) := by omega
      have harew := arew_end (r := r) (zss := zss) (fun i hi => heq.out i (by have := hn.out; omega))
      rw [← hn.out] at harew
      have hin := in_any wr r 1 3
      have htot := specTotal wr B _ zss (by rw [hw.out]; exact hl0.out) hs
      obtain ⟨T, hT⟩ : ∃ T, T = totL zss := ⟨_, rfl⟩
      rw [← hT] at htot harew
      replace hT := hidI hT
      replace hk := hidI hk
      by_cases g1 : 1 ≤ r ∧ r ≤ 3
      · rw [decide_eq_true g1] at hin
        by_cases g2 : k ≤ 6
        · have g2d : decide ((k : Int) ≤ 6) = true := by rw [decide_eq_true_eq]; omega
          have hans : decide (1 ≤ r ∧ r ≤ 3 ∧ k ≤ 6 ∧ T < 40) = decide ((T : Int) < 40) := by
            congr 1; rw [eq_iff_iff]; constructor
            · intro h; omega
            · intro h; omega
          rw [hans] at harew
          replace harew := hidI harew
          clear hans
          replace g1 := hidI g1
          go_wp2_with fail
          refine hin.mono ?_
          rintro e w3 ⟨rfl, rfl⟩
          clear hin
          go_wp2_with fail
          refine htot.mono ?_
          rintro e w4 ⟨rfl, m4, rfl⟩
          clear htot
          go_wp2
          go_ret
          exact ⟨ret_bool harew.out.symm, m + m4, by rw [hw.out, World.drewN_drewN]⟩
        · have g2d : decide ((k : Int) ≤ 6) = false := by rw [decide_eq_false_iff_not]; omega
          have hans : decide (1 ≤ r ∧ r ≤ 3 ∧ k ≤ 6 ∧ T < 40) = false := by rw [decide_eq_false_iff_not]; omega
          rw [hans] at harew
          replace harew := hidI harew
          clear hans
          replace g1 := hidI g1
          go_wp2_with fail
          refine hin.mono ?_
          rintro e w3 ⟨rfl, rfl⟩
          clear hin
          go_wp2
          go_ret
          exact ⟨ret_bool harew.out.symm, m, hw.out⟩
      · rw [decide_eq_false g1] at hin
        have hans : decide (1 ≤ r ∧ r ≤ 3 ∧ k ≤ 6 ∧ T < 40) = false := by rw [decide_eq_false_iff_not]; omega
        rw [hans] at harew
        replace harew := hidI harew
        clear hans
        replace g1 := hidI g1
        go_wp2_with fail
        refine hin.mono ?_
        rintro e w3 ⟨rfl, rfl⟩
        clear hin
        go_wp2
        go_ret
        exact ⟨ret_bool harew.out.symm, m, hw.out⟩
end Go.Proofs.Ytmafaglgegimfaa
