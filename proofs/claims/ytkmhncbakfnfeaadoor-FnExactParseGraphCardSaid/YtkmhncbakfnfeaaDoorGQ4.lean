/- Graphs, the program: numberIn, letterOfName, edgeIn. -/
import Derived.Test.YtkmhncbakfnfeaaDoorGQ1
import Derived.Test.YtkmhncbakfnfeaaDoorGPF
import Derived.Test.YtkmhncbakfnfeaaDoorParI
namespace Go.Proofs.YtkmhncbakfnfeaaDoor
open Go.RowKit
set_option linter.unusedVariables false
set_option linter.unusedSimpArgs false
set_option maxRecDepth 100000

theorem numberIn_any (s : ByteArray) (w : World) (hs : s.size ≤ 1048576) (htab : Tab w) : Calls Tryd.prog 28 #[.string s] w (LwInt w (numP s.data.toList)) := by
  have hc := implPar s w hs htab
  unfold numP
  obtain ⟨p, hp⟩ : ∃ p, p = parseI s.data.toList := ⟨_, rfl⟩
  rw [← hp] at hc ⊢
  obtain ⟨n, b⟩ := p
  replace hp := hidI hp
  clear htab
  go_enter Tryd.func28, Tryd.ntmps28
  go_wp2_with fail
  refine hc.mono ?_
  rintro e w1 ⟨rfl, hb1⟩
  go_wp2
  go_ret
  exact ⟨rfl, hb1⟩
theorem letter_any (w : World) (c : UInt8) : Calls Tryd.prog 48 #[.int .u8 (c.toNat : Int)] w fun e w' => e = .returned (.int .i64 (unch c)) ∧ w = w' := by
  have hcb := toNat_lt c
  obtain ⟨u, hu⟩ : ∃ u, u = unch c := ⟨_, rfl⟩
  rw [← hu]
  by_cases c1 : 97 ≤ c.toNat ∧ c.toNat ≤ 99
  · have h := unch_low c1
    obtain ⟨c1a, c1b⟩ := c1
    have hu2 : (c.toNat : Int) - 97 + 1 = u := by rw [hu, h]; omega
    have d1 : (97 : Int) ≤ (c.toNat : Int) := by omega
    have d2 : (c.toNat : Int) < 100 := by omega
    replace hu := hidI hu
    replace h := hidI h
    go_enter Tryd.func48, Tryd.ntmps48
    go_wp2
    go_ret
    exact ⟨ret_i (by first | rfl | omega), rfl⟩
  · by_cases c2 : 65 ≤ c.toNat ∧ c.toNat ≤ 67
    · have h := unch_up c2
      obtain ⟨c2a, c2b⟩ := c2
      have hu2 : -((c.toNat : Int) - 65) - 1 = u := by rw [hu, h]; omega
      have d0 : decide ((97 : Int) ≤ (c.toNat : Int)) = false := by simp; omega
      have d1 : (65 : Int) ≤ (c.toNat : Int) := by omega
      have d2 : (c.toNat : Int) < 68 := by omega
      replace hu := hidI hu
      replace h := hidI h
      clear c1
      go_enter Tryd.func48, Tryd.ntmps48
      go_wp2
      go_ret
      exact ⟨ret_i (by first | rfl | omega), rfl⟩
    · have h := unch_no c1 c2
      have hu2 : u = 0 := by rw [hu, h]
      subst hu2
      replace hu := hidI hu
      replace h := hidI h
      by_cases k1 : 97 ≤ c.toNat
      · have d1 : (97 : Int) ≤ (c.toNat : Int) := by omega
        have d2 : decide ((c.toNat : Int) < 100) = false := by simp; omega
        have d3 : (65 : Int) ≤ (c.toNat : Int) := by omega
        have d4 : decide ((c.toNat : Int) < 68) = false := by simp; omega
        clear c1 c2
        go_enter Tryd.func48, Tryd.ntmps48
        go_wp2
        go_ret
        exact ⟨rfl, rfl⟩
      · have d1 : decide ((97 : Int) ≤ (c.toNat : Int)) = false := by simp; omega
        by_cases k2 : 65 ≤ c.toNat
        · have d3 : (65 : Int) ≤ (c.toNat : Int) := by omega
          have d4 : decide ((c.toNat : Int) < 68) = false := by simp; omega
          clear c1 c2
          go_enter Tryd.func48, Tryd.ntmps48
          go_wp2
          go_ret
          exact ⟨rfl, rfl⟩
        · have d3 : decide ((65 : Int) ≤ (c.toNat : Int)) = false := by simp; omega
          clear c1 c2
          go_enter Tryd.func48, Tryd.ntmps48
          go_wp2
          go_ret
          exact ⟨rfl, rfl⟩
set_option maxHeartbeats 6400000 in
theorem edgeIn_any (s : ByteArray) (w : World) (hs : s.size ≤ 1048576) (htab : Tab w) : Calls Tryd.prog 29 #[.string s] w (LwEdge w (readG isAny numP [] s.data.toList)) := by
  obtain ⟨L, hL⟩ : ∃ L, L = s.data.toList := ⟨_, rfl⟩
  have hlen : L.length = s.size := by rw [hL]; rfl
  rw [← hL]
  obtain ⟨R, hR⟩ : ∃ R, R = readG isAny numP [] L := ⟨_, rfl⟩
  rw [← hR]
  obtain ⟨w1, hw1⟩ : ∃ w1, w1 = w.alloc (.cells #[.int .i64 0, .int .i64 0, .int .i64 0] 41) := ⟨_, rfl⟩
  have hb1 : Below w.heap.size w w1 := by rw [hw1]; exact (Below.refl _ _).alloc (Nat.le_refl _) _
  have hs1 : w.heap.size < w1.heap.size := by rw [hw1]; simp
  have hk1 := heap_alloc_new w (.cells #[.int .i64 0, .int .i64 0, .int .i64 0] 41)
  rw [← hw1] at hk1
  replace hL := hidI hL
  replace hlen := hidI hlen
  replace hR := hidI hR
  replace hw1 := hidI hw1
  replace hk1 := hidI hk1
  replace htab := hidI htab
  go_enter Tryd.func29, Tryd.ntmps29
  go_wp2
  rw [← hw1.out]
  go_loopg [7] s.size (fun g i wr => ∃ k : Nat, k + g = s.size ∧ i = .int .i64 k ∧ Hid (readG isAny numP (L.take k) (L.drop k) = R) ∧ Hid (Below w1.heap.size w1 wr))
  case atStart => exact ⟨0, by omega, rfl, hidI (by rw [hR.out]; simp), hidI (Below.refl _ _)⟩
  case round =>
    obtain ⟨k, hk, rfl, hR1, hb⟩ := hrel
    by_cases hlt : k < s.size
    · have hkL : k < L.length := by rw [hlen.out]; exact hlt
      have e1 : L[k] = s[k] := by have h := hL.out; subst h; rfl
      have hdrop : L.drop k = s[k] :: L.drop (k + 1) := by rw [drop_byte hkL, e1]
      have htake : L.take (k + 1) = L.take k ++ [s[k]] := by rw [take_byte hkL, e1]
      have hcb := toNat_lt s[k]
      have hki : (k : Int) < (s.size : Int) := by omega
      replace hdrop := hidI hdrop
      replace hk := hidI hk
      clear e1 hkL
      have hle := letter_any wr s[k]
      obtain ⟨u, huv⟩ : ∃ u, u = unch s[k] := ⟨_, rfl⟩
      rw [← huv] at hle
      by_cases hc : u = 0
      case neg =>
        have hlow : isAny s[k] = true := by unfold isAny; rw [← huv]; simpa using hc
        have d1 : (u != 0) = true := by rw [bne_iff_ne]; exact hc
        clear htake
        have hR2 : R = (numP (L.take k), unch s[k], numP (L.drop (k + 1))) := by rw [← hR1.out, hdrop.out, readG, if_pos hlow]
        have he1 : (s.extract 0 k).data.toList = L.take k := by rw [hL.out]; exact Lib.extract_from_zero s k
        have he2 : (s.extract (k + 1) s.size).data.toList = L.drop (k + 1) := by rw [hL.out]; exact Lib.extract_to_end s (k + 1)
        obtain ⟨wd, hwd⟩ : ∃ z, z = wr.drew := ⟨_, rfl⟩
        have hbd : Below wr.heap.size wr wd := by rw [hwd]; exact below_dn (Below.refl _ _) 1
        have hsd := hbd.size
        have hsb := hb.out.size
        have hkd : wd.heap[w.heap.size]? = some (.cells #[.int .i64 0, .int .i64 0, .int .i64 0] 41 (0, 0)) := by rw [hbd.block _ (by omega), hb.out.block _ (by omega)]; exact hk1.out
        have htd : Hid (Tab wd) := hidI (htab.out.below (hb1.trans ((hb.out.trans (hbd.mono hb.out.size)).mono hb1.size)))
        replace hwd := hidI hwd
        replace hkd := hidI hkd
        replace hR2 := hidI hR2
        replace he1 := hidI he1
        replace he2 := hidI he2
        have hkz : (k : Int) ≤ (s.size : Int) := by omega
        have hkz1 : (k : Int) + 1 ≤ (s.size : Int) := by omega
        have hwk : IntKind.i64.wrap ((k : Int) + 1) = (k : Int) + 1 := IntWalk.i64_in _ (by omega)
        have hk0 : (0 : Int) ≤ (k : Int) + 1 := by omega
        have htn : ((k : Int) + 1).toNat = k + 1 := by omega
        replace huv := hidI huv
        replace hc := hidI hc
        go_wp2_with fail
        refine hle.mono ?_
        rintro e wl ⟨rfl, rfl⟩
        go_wp2
        refine hideQ (fun _ _ d _ _ h => by cases d <;> exact h) (fun Q' hnorm hpan => ?_)
        refine wp_region_held_drew (S := (fun _ => True)) (by kernel_rfl) ?_ (fun hHeld => ?_)
        · try dsimp only
          all_goals trivial
        rw [← hwd.out]
        refine take_at 0 16 (v := ?_) rfl (by kernel_rfl) (by kernel_rfl) (by kernel_rfl) (by kernel_rfl) hpan (Or.inl ⟨by rfl, ?_⟩) (by assumption) ?_
        rotate_left
        · intro w hSw; (try dsimp only at hSw); go_simp; with_reducible rfl
        simp only [Act.put, List.setIfInBounds_toArray, List.set_cons_zero, List.set_cons_succ]
        refine take_at 1 17 (v := ?_) rfl (by kernel_rfl) (by kernel_rfl) (by kernel_rfl) (by kernel_rfl) hpan (Or.inl ⟨by rfl, ?_⟩) (by assumption) ?_
        rotate_left
        · intro w hSw; (try dsimp only at hSw); go_simp; with_reducible rfl
        simp only [Act.put, List.setIfInBounds_toArray, List.set_cons_zero, List.set_cons_succ]
        refine take_at 2 18 (v := ?_) rfl (by kernel_rfl) (by kernel_rfl) (by kernel_rfl) (by kernel_rfl) hpan (Or.inl ⟨by rfl, ?_⟩) (by assumption) ?_
        rotate_left
        · intro w hSw; (try dsimp only at hSw); go_simp; with_reducible rfl
        simp only [Act.put, List.setIfInBounds_toArray, List.set_cons_zero, List.set_cons_succ]
        refine take_at 4 20 (v := ?_) rfl (by kernel_rfl) (by kernel_rfl) (by kernel_rfl) (by kernel_rfl) hpan (Or.inl ⟨by rfl, ?_⟩) (by assumption) ?_
        rotate_left
        · intro w hSw; (try dsimp only at hSw); go_simp; with_reducible rfl
        simp only [Act.put, List.setIfInBounds_toArray, List.set_cons_zero, List.set_cons_succ]
        refine take_at 5 21 (v := ?_) rfl (by kernel_rfl) (by kernel_rfl) (by kernel_rfl) (by kernel_rfl) hpan (Or.inl ⟨by rfl, ?_⟩) (by assumption) ?_
        rotate_left
        · intro w hSw; (try dsimp only at hSw); go_simp; with_reducible rfl
        simp only [Act.put, List.setIfInBounds_toArray, List.set_cons_zero, List.set_cons_succ]
        refine take_at 6 22 (v := ?_) rfl (by kernel_rfl) (by kernel_rfl) (by kernel_rfl) (by kernel_rfl) hpan (Or.inl ⟨by rfl, ?_⟩) (by assumption) ?_
        rotate_left
        · intro w hSw; (try dsimp only at hSw); go_simp; with_reducible rfl
        simp only [Act.put, List.setIfInBounds_toArray, List.set_cons_zero, List.set_cons_succ]
        refine take_at 7 23 (v := ?_) rfl (by kernel_rfl) (by kernel_rfl) (by kernel_rfl) (by kernel_rfl) hpan (Or.inl ⟨by rfl, ?_⟩) (by assumption) ?_
        rotate_left
        · intro w hSw; (try dsimp only at hSw); go_simp; with_reducible rfl
        simp only [Act.put, List.setIfInBounds_toArray, List.set_cons_zero, List.set_cons_succ]
        refine take_at 8 24 (v := ?_) rfl (by kernel_rfl) (by kernel_rfl) (by kernel_rfl) (by kernel_rfl) hpan (Or.inl ⟨by rfl, ?_⟩) (by assumption) ?_
        rotate_left
        · intro w hSw; (try dsimp only at hSw); go_simp; with_reducible rfl
        simp only [Act.put, List.setIfInBounds_toArray, List.set_cons_zero, List.set_cons_succ]
        refine wpAnyH_ready (rs := [3]) (by kernel_rfl) (by simp) ?_
        refine AllReadyH.cons rfl (fun K hK => ?_) AllReadyH.nil
        rw [if_pos (by rfl)]
        go_simp
        refine (numberIn_any (s.extract 0 k) wd (by simp [ByteArray.size_extract]; omega) htd.out).mono ?_
        rintro e w3 ⟨rfl, hb3⟩
        have ht3 := hidI (htd.out.below hb3)
        have hk3 : w3.heap[w.heap.size]? = some (.cells #[.int .i64 0, .int .i64 0, .int .i64 0] 41 (0, 0)) := by rw [hb3.block _ (by omega)]; exact hkd.out
        refine hK.out _ _ ?_ (fun hHeld => ?_)
        · try dsimp only
          all_goals trivial
        clear hK
        try simp only [Act.put, List.setIfInBounds_toArray, List.set_cons_zero, List.set_cons_succ]
        refine wpAnyH_ready (rs := [9]) (by kernel_rfl) (by simp) ?_
        refine AllReadyH.cons rfl (fun K hK => ?_) AllReadyH.nil
        rw [if_pos (by rfl)]
        go_simp
        refine (numberIn_any (s.extract (k + 1) s.size) w3 (by simp [ByteArray.size_extract]; omega) ht3.out).mono ?_
        rintro e w4 ⟨rfl, hb4⟩
        have hs34 := hb3.size
        have hk4 : w4.heap[w.heap.size]? = some (.cells #[.int .i64 0, .int .i64 0, .int .i64 0] 41 (0, 0)) := by rw [hb4.block _ (by omega)]; exact hk3
        have z0 := cell_of_heap hk4 0
        have z1 := cell_of_heap hk4 1
        have z2 := cell_of_heap hk4 2
        have fz := fun j => frozen_of_row w4 w.heap.size j _ _ hk4
        simp at z0 z1 z2
        replace hk4 := hidI hk4
        replace hk3 := hidI hk3
        refine hK.out _ _ ?_ (fun hHeld => ?_)
        · try dsimp only
          all_goals trivial
        clear hK
        try simp only [Act.put, List.setIfInBounds_toArray, List.set_cons_zero, List.set_cons_succ]
        refine take_at 10 26 (v := ?_) rfl (by kernel_rfl) (by kernel_rfl) (by kernel_rfl) (by kernel_rfl) hpan (Or.inl ⟨by rfl, ?_⟩) (by assumption) ?_
        rotate_left
        · intro w hSw; (try dsimp only at hSw); go_simp; with_reducible rfl
        simp only [Act.put, List.setIfInBounds_toArray, List.set_cons_zero, List.set_cons_succ]
        refine wpAnyH_ready (rs := [11]) (by kernel_rfl) (by simp) ?_
        refine AllReadyH.cons rfl (fun K hK => ?_) AllReadyH.nil
        rw [if_pos (by rfl)]
        go_simp
        skip
        refine hK.out _ _ ?_ (fun hHeld => ?_)
        · try dsimp only
          all_goals trivial
        clear hK
        try simp only [Act.put, List.setIfInBounds_toArray, List.set_cons_zero, List.set_cons_succ]
        refine wpAnyH_done (by kernel_rfl) ?_ _
        refine hnorm _ _ ?_
        clear hnorm hpan
        repeat clear hHeld
        try simp only [Exit.then]
        have hbz := hb1.trans ((hb.out.trans ((hbd.trans ((hb3.trans (hb4.mono hb3.size)).mono hbd.size)).mono hb.out.size)).mono hb1.size)
        clear z0 z1 z2 fz
        go_wp2
        (try simp only [Exit.inBlock, Exit.then])
        refine ret_cell rfl (g := w.heap.size) rfl (set3 hk4.out _ _ _) Tryd.underlying41 sizeEdge ?_
        refine lwEdge_of ?_ (below_set3' hbz (Nat.le_refl _))
        have hq1 : numP (L.take k) = numP (List.take k s.data.toList) := by rw [hL.out]
        have hq3 : numP (L.drop (k + 1)) = numP (List.take (s.size - (k + 1)) (List.drop (k + 1) s.data.toList)) := by rw [hL.out, List.take_of_length_le (by rw [List.length_drop]; simp)]
        rw [← hq1, ← hq3, hR2.out, ← huv.out]
      case pos =>
        have hlow : isAny s[k] = false := by unfold isAny; rw [← huv, hc]; rfl
        have d1 : (u != 0) = false := by rw [bne_eq_false_iff_eq]; exact hc
        have hnx : Hid (readG isAny numP (L.take (k + 1)) (L.drop (k + 1)) = R) := hidI (by rw [← hR1.out, hdrop.out, htake, readG, hlow]; rfl)
        clear htake
        replace huv := hidI huv
        replace hc := hidI hc
        go_wp2_with fail
        refine hle.mono ?_
        rintro e wl ⟨rfl, rfl⟩
        go_wp2
        go_roundg (s.size - (k + 1))
        case rel => exact ⟨k + 1, by have := hk.out; omega, by go_num, hnx, hb⟩
        case measure => have := hk.out; omega
    · obtain rfl : k = s.size := by omega
      have hfin : R = (0, 0, 0) := by rw [← hR1.out, List.drop_of_length_le (by rw [hlen.out]; omega)]; rfl
      have hki : ¬ (s.size : Int) < (s.size : Int) := by omega
      have hkz : wr.heap[w.heap.size]? = some (.cells #[.int .i64 0, .int .i64 0, .int .i64 0] 41 (0, 0)) := by rw [hb.out.block _ (by omega)]; exact hk1.out
      have z0 := cell_of_heap hkz 0
      have z1 := cell_of_heap hkz 1
      have z2 := cell_of_heap hkz 2
      have fz := fun j => frozen_of_row wr w.heap.size j _ _ hkz
      simp at z0 z1 z2
      have hbz := hb1.trans (hb.out.mono hb1.size)
      replace hkz := hidI hkz
      replace hfin := hidI hfin
      replace hk := hidI hk
      go_wp2
      (try simp only [Exit.inBlock, Exit.then])
      refine ret_cell rfl (g := w.heap.size) rfl (set3 hkz.out _ _ _) Tryd.underlying41 sizeEdge ?_
      exact lwEdge_of hfin.out (below_set3' hbz (Nat.le_refl _))
end Go.Proofs.YtkmhncbakfnfeaaDoor
