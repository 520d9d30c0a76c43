/- Graphs, the model: FormatGraph. -/
import Derived.Test.YtkmhncbakfnfeaaDoorGF
import Derived.Test.YtkmhncbakfnfeaaDoorLW3
namespace Go.Proofs.YtkmhncbakfnfeaaDoor
open Go.RowKit
set_option linter.unusedVariables false
set_option linter.unusedSimpArgs false
set_option maxRecDepth 100000

theorem fmtB_list (n : Int) : (fmtB n).data.toList = Lib.itoa n := by simp [fmtB]
theorem str_eq {a : ByteArray} {l : List UInt8} (h : a.data.toList = l) : Ending.returned (.string a) = .returned (.string ⟨l.toArray⟩) := by
  subst h; simp
theorem isGr_edge {r s : Int} {es : List Ed} (h : isGr r s es = true) {k : Nat} (hk : k < es.length) : 1 ≤ (es.getD k e0).2.1 ∧ (es.getD k e0).2.1 ≤ 3 := by
  obtain ⟨h1, h2⟩ := isGr_iff.1 h
  have := h1 k hk
  unfold placeOk edgeOk at this
  simp only [Bool.and_eq_true, decide_eq_true_eq] at this
  omega
set_option maxHeartbeats 3200000 in
theorem specFmtG (w : World) (r s : Int) (v : Value) (es : List Ed) (h : ReadE w.heap.size w v es) (hr : -9223372036854775808 ≤ r ∧ r ≤ 9223372036854775807) (hs : -9223372036854775808 ≤ s ∧ s ≤ 9223372036854775807) (hie : InE es) (hl : es.length ≤ 1000000000) :
    Calls Tryd.prog 6 #[.agg #[.int .i64 r, .int .i64 s, v]] w (StrRet w (fmtGr r s es)) := by
  obtain ⟨a, cap, rfl, hnc⟩ := h.form
  obtain ⟨n, hn⟩ : ∃ n, n = es.length := ⟨_, rfl⟩
  rw [← hn] at hl hnc ⊢
  rw [← hn] at h
  obtain ⟨w1, hw1⟩ : ∃ w1, w1 = w.alloc (.cells #[.int .i64 r, .int .i64 s, .slice a n cap] 29) := ⟨_, rfl⟩
  have hb1 : Below w.heap.size w w1 := by rw [hw1]; exact (Below.refl _ _).alloc (Nat.le_refl _) _
  have hs1 : w.heap.size < w1.heap.size := by rw [hw1]; simp
  obtain ⟨g0, g1, g2⟩ := box3 hw1
  have hrd1 := (h.below hb1).mono hb1.size
  have his := specIsGr w1 r s (.slice a n cap) es (by rw [hn] at hrd1; exact hn ▸ hrd1) hs (by omega)
  have hrd := hidI (h.below hb1)
  obtain ⟨B, hB⟩ : ∃ B, B = isGr r s es := ⟨_, rfl⟩
  rw [← hB] at his
  obtain ⟨T, hT⟩ : ∃ T, T = fmtGr r s es := ⟨_, rfl⟩
  rw [← hT]
  replace hn := hidI hn
  replace hT := hidI hT
  replace hB := hidI hB
  replace hw1 := hidI hw1
  replace h := hidI h
  replace hrd1 := hidI hrd1
  replace hie := hidI hie
  go_enter Tryd.func6, Tryd.ntmps6
  go_wp2_with fail
  rw [← hw1.out]
  refine his.mono ?_
  rintro e w2 ⟨rfl, hb2⟩
  have p0 := below_cell g0 hb2 hs1
  have p1 := below_cell g1 hb2 hs1
  have p2 := below_cell g2 hb2 hs1
  have hbz := hb1.trans (hb2.mono hb1.size)
  clear his
  cases B with
  | false =>
    have hTn : T = [] := by rw [hT.out]; unfold fmtGr; rw [← hB.out]; rfl
    replace hTn := hidI hTn
    go_wp2
    go_ret
    exact ⟨by rw [hTn.out]; rfl, hbz⟩
  | true =>
    have hTn : T = fmtG r s es := by rw [hT.out]; unfold fmtGr; rw [← hB.out]; rfl
    have hgr := isGr_iff.1 hB.out.symm
    replace hTn := hidI hTn
    replace hgr := hidI hgr
    have hfr := fun x => specFmt r hr.1 hr.2 x
    have hfs := fun x => specFmt s hs.1 hs.2 x
    obtain ⟨FR, hFR⟩ : ∃ F, F = fmtB r := ⟨_, rfl⟩
    obtain ⟨FS, hFS⟩ : ∃ F, F = fmtB s := ⟨_, rfl⟩
    have hzr := fmtB_size hr
    have hzs := fmtB_size hs
    rw [← hFR] at hzr hfr
    rw [← hFS] at hzs hfs
    have k1 : FR.size + 1 ≤ 9223372036854775807 := by omega
    have k2 : FR.size + 1 + FS.size ≤ 9223372036854775807 := by omega
    replace hFR := hidI hFR
    replace hFS := hidI hFS
    have hlt2 : w.heap.size < w2.heap.size := Nat.lt_of_lt_of_le hs1 hb2.size
    have hn120 : n ≤ 120 := by have := hgr.out.2.2.2.2.2; rw [← hn.out] at this; exact this
    obtain ⟨wd, hwd⟩ : ∃ z, z = w2.drew := ⟨_, rfl⟩
    have hbd : Below w2.heap.size w2 wd := by rw [hwd]; exact below_dn (Below.refl _ _) 1
    have hltd : w.heap.size < wd.heap.size := Nat.lt_of_lt_of_le hlt2 hbd.size
    have x0 := below_cell p0 hbd hlt2
    have x1 := below_cell p1 hbd hlt2
    have x2 := below_cell p2 hbd hlt2
    have k3 : ¬ 9223372036854775807 < FR.size + 1 := by omega
    have k4 : ¬ 9223372036854775807 < FR.size + 1 + FS.size := by omega
    replace hwd := hidI hwd
    go_wp2
    refine hideQ (fun _ _ d _ _ h => by cases d <;> exact h) (fun Q' hnorm hpan => ?_)
    refine wp_region_held_drew (S := (fun z => z.cell? ⟨w.heap.size, 0, none⟩ = some (.int .i64 r) ∧ z.cell? ⟨w.heap.size, 1, none⟩ = some (.int .i64 s))) (by kernel_rfl) ?_ (fun hHeld => ?_)
    · try dsimp only
      first | ((repeat' apply And.intro) <;> assumption) | (rw [← hwd.out]; ((repeat' apply And.intro) <;> assumption))
    rw [← hwd.out] at hHeld ⊢
    refine take_at 0 9 (v := ?_) rfl (by kernel_rfl) (by kernel_rfl) (by kernel_rfl) (by kernel_rfl) hpan (Or.inl ⟨by rfl, ?_⟩) (by assumption) ?_
    rotate_left
    · intro w hSw; (try dsimp only at hSw); go_simp; with_reducible rfl
    simp only [Act.put, List.setIfInBounds_toArray, List.set_cons_zero, List.set_cons_succ]
    refine take_at 1 10 (v := ?_) rfl (by kernel_rfl) (by kernel_rfl) (by kernel_rfl) (by kernel_rfl) hpan (Or.inl ⟨by rfl, ?_⟩) (by assumption) ?_
    rotate_left
    · intro w hSw; (try dsimp only at hSw); go_simp; with_reducible rfl
    simp only [Act.put, List.setIfInBounds_toArray, List.set_cons_zero, List.set_cons_succ]
    refine take_at 4 13 (v := ?_) rfl (by kernel_rfl) (by kernel_rfl) (by kernel_rfl) (by kernel_rfl) hpan (Or.inl ⟨by rfl, ?_⟩) (by assumption) ?_
    rotate_left
    · intro w hSw; (try dsimp only at hSw); go_simp; with_reducible rfl
    simp only [Act.put, List.setIfInBounds_toArray, List.set_cons_zero, List.set_cons_succ]
    refine take_at 5 14 (v := ?_) rfl (by kernel_rfl) (by kernel_rfl) (by kernel_rfl) (by kernel_rfl) hpan (Or.inl ⟨by rfl, ?_⟩) (by assumption) ?_
    rotate_left
    · intro w hSw; (try dsimp only at hSw); go_simp; with_reducible rfl
    simp only [Act.put, List.setIfInBounds_toArray, List.set_cons_zero, List.set_cons_succ]
    refine wpAnyH_ready (rs := [2]) (by kernel_rfl) (by simp) ?_
    refine AllReadyH.cons rfl (fun K hK => ?_) AllReadyH.nil
    rw [if_pos (by rfl)]
    go_simp
    refine (hfr wd).mono ?_
    rintro e w3 ⟨rfl, hb3⟩
    have y0 := below_cell x0 hb3 hltd
    have y1 := below_cell x1 hb3 hltd
    have y2 := below_cell x2 hb3 hltd
    refine hK.out _ _ ?_ (fun hHeld => ?_)
    · try dsimp only
      first | ((repeat' apply And.intro) <;> assumption) | (rw [← hwd.out]; ((repeat' apply And.intro) <;> assumption))
    clear hK
    try simp only [Act.put, List.setIfInBounds_toArray, List.set_cons_zero, List.set_cons_succ]
    refine take_at 3 12 (v := ?_) rfl (by kernel_rfl) (by kernel_rfl) (by kernel_rfl) (by kernel_rfl) hpan (Or.inl ⟨by rfl, ?_⟩) (by assumption) ?_
    rotate_left
    · intro w hSw; (try dsimp only at hSw); go_simp; with_reducible rfl
    simp only [Act.put, List.setIfInBounds_toArray, List.set_cons_zero, List.set_cons_succ]
    refine wpAnyH_ready (rs := [6]) (by kernel_rfl) (by simp) ?_
    refine AllReadyH.cons rfl (fun K hK => ?_) AllReadyH.nil
    rw [if_pos (by rfl)]
    go_simp
    refine (hfs w3).mono ?_
    rintro e w4 ⟨rfl, hb4⟩
    have z0 := below_cell y0 hb4 (Nat.lt_of_lt_of_le hltd hb3.size)
    have z1 := below_cell y1 hb4 (Nat.lt_of_lt_of_le hltd hb3.size)
    have z2 := below_cell y2 hb4 (Nat.lt_of_lt_of_le hltd hb3.size)
    refine hK.out _ _ ?_ (fun hHeld => ?_)
    · try dsimp only
      first | ((repeat' apply And.intro) <;> assumption) | (rw [← hwd.out]; ((repeat' apply And.intro) <;> assumption))
    clear hK
    try simp only [Act.put, List.setIfInBounds_toArray, List.set_cons_zero, List.set_cons_succ]
    refine take_at 7 16 (v := ?_) rfl (by kernel_rfl) (by kernel_rfl) (by kernel_rfl) (by kernel_rfl) hpan (Or.inl ⟨by rfl, ?_⟩) (by assumption) ?_
    rotate_left
    · intro w hSw; (try dsimp only at hSw); go_simp; with_reducible rfl
    simp only [Act.put, List.setIfInBounds_toArray, List.set_cons_zero, List.set_cons_succ]
    refine take_at 8 3 (v := ?_) rfl (by kernel_rfl) (by kernel_rfl) (by kernel_rfl) (by kernel_rfl) hpan (Or.inl ⟨by rfl, ?_⟩) (by assumption) ?_
    rotate_left
    · intro w hSw; (try dsimp only at hSw); go_simp; with_reducible rfl
    simp only [Act.put, List.setIfInBounds_toArray, List.set_cons_zero, List.set_cons_succ]
    refine wpAnyH_done (by kernel_rfl) ?_ _
    refine hnorm _ _ ?_
    clear hnorm hpan
    repeat clear hHeld
    try simp only [Exit.then]
    have hb04 : Below w1.heap.size w1 w4 := hb2.trans ((hbd.trans ((hb3.trans (hb4.mono hb3.size)).mono hbd.size)).mono hb2.size)
    obtain ⟨A0, hA0⟩ : ∃ A0, A0 = FR ++ ⟨#[32]⟩ ++ FS := ⟨_, rfl⟩
    have hhead : A0.data.toList = fmtHead r s := by
      rw [hA0, hFR.out, hFS.out]
      unfold fmtHead
      simp [fmtB_list]
    rw [← hA0]
    have hAz : A0.size ≤ 2097153 := by rw [hA0]; simp [ByteArray.size_append]; have h1 : (⟨#[32]⟩ : ByteArray).size = 1 := rfl; omega
    replace hhead := hidI hhead
    replace hA0 := hidI hA0
    replace hb04 := hidI hb04
    clear x0 x1 x2 y0 y1 y2 z0 z1 z2 hb3 hb4 hbd hltd k1 k2 k3 k4 hfr hfs p0 p1 p2 hzr hzs
    go_wp2
    go_loopg [3, 4] n (fun g a i wr => ∃ (k : Nat) (A : ByteArray), k + g = n ∧ i = .int .i64 k ∧ a = .string A ∧ Hid (A.data.toList = fmtHead r s ++ fmtEs (es.take k)) ∧ Hid (A.size ≤ 2097153 + k * 2097154) ∧ Hid (Below w1.heap.size w1 wr))
    case atStart => exact ⟨0, A0, by omega, rfl, rfl, hidI (by rw [hhead.out]; simp [fmtEs]), hidI (by omega), hb04⟩
    case round =>
      obtain ⟨k, A, hk, rfl, rfl, hA, hAz2, hb⟩ := hrel
      have hsz := hb.out.size
      have q0 := below_cell g0 hb.out hs1
      have q1 := below_cell g1 hb.out hs1
      have q2 := below_cell g2 hb.out hs1
      by_cases hlt : k < n
      · obtain ⟨b, off, hab, hBq, c0, c1, c2⟩ := ReadE.at3 (hrd.out.below (hb.out.mono hb1.size)) k (by have := hn.out; omega)
        subst hab
        have hkl : k < es.length := by have := hn.out; omega
        have hie2 := hie.out (es.getD k e0) (by rw [List.getD_eq_getElem?_getD, List.getElem?_eq_getElem hkl]; exact List.getElem_mem hkl)
        have hlet0 := isGr_edge hB.out.symm hkl
        have hnext := fmtEs_next hkl
        obtain ⟨ef, hef⟩ : ∃ z, z = (es.getD k e0).1 := ⟨_, rfl⟩
        obtain ⟨el, hel⟩ : ∃ z, z = (es.getD k e0).2.1 := ⟨_, rfl⟩
        obtain ⟨et, het⟩ : ∃ z, z = (es.getD k e0).2.2 := ⟨_, rfl⟩
        have hfe0 : fmtE (es.getD k e0) = 32 :: (Lib.itoa ef ++ chr el :: Lib.itoa et) := by rw [hef, hel, het]; rfl
        rw [hfe0] at hnext
        rw [← hef] at c0 hie2
        rw [← hel] at c1 hie2 hlet0
        rw [← het] at c2 hie2
        have hlet : lettB el = true := lettB_iff.2 ⟨by omega, by omega, by omega⟩
        have hki : (k : Int) < (n : Int) := by omega
        have hfe := fun x => specFmt ef hie2.1.1 hie2.1.2 x
        have hft := fun x => specFmt et hie2.2.2.1 hie2.2.2.2 x
        obtain ⟨FE, hFE⟩ : ∃ F, F = fmtB ef := ⟨_, rfl⟩
        obtain ⟨FT, hFT⟩ : ∃ F, F = fmtB et := ⟨_, rfl⟩
        have hze := fmtB_size hie2.1
        have hzt := fmtB_size hie2.2.2
        rw [← hFE] at hze hfe
        rw [← hFT] at hzt hft
        have hAz3 := hAz2.out
        have k1 : ¬ 9223372036854775807 < A.size + 1 := by omega
        have k2 : ¬ 9223372036854775807 < A.size + 1 + FE.size := by omega
        have k3 : ¬ 9223372036854775807 < A.size + 1 + FE.size + 1 := by omega
        have k4 : ¬ 9223372036854775807 < A.size + 1 + FE.size + 1 + FT.size := by omega
        have hA' : Hid ((A ++ ⟨#[32]⟩ ++ FE ++ ⟨#[chr el]⟩ ++ FT).data.toList = fmtHead r s ++ fmtEs (es.take (k + 1))) := hidI (by
          rw [hnext, hFE, hFT]
          simp [fmtB_list, hA.out])
        have hAz' : Hid ((A ++ ⟨#[32]⟩ ++ FE ++ ⟨#[chr el]⟩ ++ FT).size ≤ 2097153 + (k + 1) * 2097154) := hidI (by
          simp [ByteArray.size_append]
          have h1 : (⟨#[32]⟩ : ByteArray).size = 1 := rfl
          have h2 : (⟨#[chr el]⟩ : ByteArray).size = 1 := rfl
          omega)
        obtain ⟨wn, hwn⟩ : ∃ z, z = wr.alloc (.cells #[.int .i64 ef, .int .i64 el, .int .i64 et] 41) := ⟨_, rfl⟩
        obtain ⟨u0, u1, u2⟩ := box3 hwn
        have hbn : Below wr.heap.size wr wn := by rw [hwn]; exact (Below.refl _ _).alloc (Nat.le_refl _) _
        have hltw : wr.heap.size < wn.heap.size := by rw [hwn]; simp
        obtain ⟨wd, hwd⟩ : ∃ z, z = wn.drew := ⟨_, rfl⟩
        have hbd : Below wn.heap.size wn wd := by rw [hwd]; exact below_dn (Below.refl _ _) 1
        have hltn : wr.heap.size < wd.heap.size := Nat.lt_of_lt_of_le hltw hbd.size
        have x0 := below_cell u0 hbd hltw
        have x1 := below_cell u1 hbd hltw
        have x2 := below_cell u2 hbd hltw
        replace hef := hidI hef
        replace hel := hidI hel
        replace het := hidI het
        replace hFE := hidI hFE
        replace hFT := hidI hFT
        replace hwn := hidI hwn
        replace hwd := hidI hwd
        replace hA := hidI hA
        replace hfe0 := hidI hfe0
        replace hnext := hidI hnext
        replace hk := hidI hk
        clear hlet0 hie2 hAz3 hze hzt
        go_wp2
        rw [← hwn.out]
        clear u0 u1 u2 c0 c1 c2
        refine hideQ (fun _ _ d _ _ h => by cases d <;> exact h) (fun Q' hnorm hpan => ?_)
        refine wp_region_held_drew (S := (fun z => z.cell? ⟨wr.heap.size, 0, none⟩ = some (.int .i64 ef) ∧ z.cell? ⟨wr.heap.size, 1, none⟩ = some (.int .i64 el) ∧ z.cell? ⟨wr.heap.size, 2, none⟩ = some (.int .i64 et))) (by kernel_rfl) ?_ (fun hHeld => ?_)
        · try dsimp only
          first | ((repeat' apply And.intro) <;> assumption) | (rw [← hwd.out]; ((repeat' apply And.intro) <;> assumption))
        rw [← hwd.out] at hHeld ⊢
        refine take_at 0 29 (v := ?_) rfl (by kernel_rfl) (by kernel_rfl) (by kernel_rfl) (by kernel_rfl) hpan (Or.inl ⟨by rfl, ?_⟩) (by assumption) ?_
        rotate_left
        · intro w hSw; (try dsimp only at hSw); go_simp; with_reducible rfl
        simp only [Act.put, List.setIfInBounds_toArray, List.set_cons_zero, List.set_cons_succ]
        refine take_at 1 30 (v := ?_) rfl (by kernel_rfl) (by kernel_rfl) (by kernel_rfl) (by kernel_rfl) hpan (Or.inl ⟨by rfl, ?_⟩) (by assumption) ?_
        rotate_left
        · intro w hSw; (try dsimp only at hSw); go_simp; with_reducible rfl
        simp only [Act.put, List.setIfInBounds_toArray, List.set_cons_zero, List.set_cons_succ]
        refine take_at 2 31 (v := ?_) rfl (by kernel_rfl) (by kernel_rfl) (by kernel_rfl) (by kernel_rfl) hpan (Or.inl ⟨by rfl, ?_⟩) (by assumption) ?_
        rotate_left
        · intro w hSw; (try dsimp only at hSw); go_simp; with_reducible rfl
        simp only [Act.put, List.setIfInBounds_toArray, List.set_cons_zero, List.set_cons_succ]
        refine take_at 3 32 (v := ?_) rfl (by kernel_rfl) (by kernel_rfl) (by kernel_rfl) (by kernel_rfl) hpan (Or.inl ⟨by rfl, ?_⟩) (by assumption) ?_
        rotate_left
        · intro w hSw; (try dsimp only at hSw); go_simp; with_reducible rfl
        simp only [Act.put, List.setIfInBounds_toArray, List.set_cons_zero, List.set_cons_succ]
        refine take_at 6 35 (v := ?_) rfl (by kernel_rfl) (by kernel_rfl) (by kernel_rfl) (by kernel_rfl) hpan (Or.inl ⟨by rfl, ?_⟩) (by assumption) ?_
        rotate_left
        · intro w hSw; (try dsimp only at hSw); go_simp; with_reducible rfl
        simp only [Act.put, List.setIfInBounds_toArray, List.set_cons_zero, List.set_cons_succ]
        refine take_at 7 36 (v := ?_) rfl (by kernel_rfl) (by kernel_rfl) (by kernel_rfl) (by kernel_rfl) hpan (Or.inl ⟨by rfl, ?_⟩) (by assumption) ?_
        rotate_left
        · intro w hSw; (try dsimp only at hSw); go_simp; with_reducible rfl
        simp only [Act.put, List.setIfInBounds_toArray, List.set_cons_zero, List.set_cons_succ]
        refine take_at 10 39 (v := ?_) rfl (by kernel_rfl) (by kernel_rfl) (by kernel_rfl) (by kernel_rfl) hpan (Or.inl ⟨by rfl, ?_⟩) (by assumption) ?_
        rotate_left
        · intro w hSw; (try dsimp only at hSw); go_simp; with_reducible rfl
        simp only [Act.put, List.setIfInBounds_toArray, List.set_cons_zero, List.set_cons_succ]
        refine take_at 11 40 (v := ?_) rfl (by kernel_rfl) (by kernel_rfl) (by kernel_rfl) (by kernel_rfl) hpan (Or.inl ⟨by rfl, ?_⟩) (by assumption) ?_
        rotate_left
        · intro w hSw; (try dsimp only at hSw); go_simp; with_reducible rfl
        simp only [Act.put, List.setIfInBounds_toArray, List.set_cons_zero, List.set_cons_succ]
        refine wpAnyH_ready (rs := [4]) (by kernel_rfl) (by simp) ?_
        refine AllReadyH.cons rfl (fun K hK => ?_) AllReadyH.nil
        rw [if_pos (by rfl)]
        go_simp
        refine (hfe wd).mono ?_
        rintro e v3 ⟨rfl, hb3⟩
        have y0 := below_cell x0 hb3 (Nat.lt_of_lt_of_le hltn (Nat.le_refl _))
        have y1 := below_cell x1 hb3 (Nat.lt_of_lt_of_le hltn (Nat.le_refl _))
        have y2 := below_cell x2 hb3 (Nat.lt_of_lt_of_le hltn (Nat.le_refl _))
        refine hK.out _ _ ?_ (fun hHeld => ?_)
        · try dsimp only
          first | ((repeat' apply And.intro) <;> assumption) | (rw [← hwd.out]; ((repeat' apply And.intro) <;> assumption))
        clear hK
        try simp only [Act.put, List.setIfInBounds_toArray, List.set_cons_zero, List.set_cons_succ]
        refine take_at 5 34 (v := ?_) rfl (by kernel_rfl) (by kernel_rfl) (by kernel_rfl) (by kernel_rfl) hpan (Or.inl ⟨by rfl, ?_⟩) (by assumption) ?_
        rotate_left
        · intro w hSw; (try dsimp only at hSw); go_simp; with_reducible rfl
        simp only [Act.put, List.setIfInBounds_toArray, List.set_cons_zero, List.set_cons_succ]
        refine wpAnyH_ready (rs := [8]) (by kernel_rfl) (by simp) ?_
        refine AllReadyH.cons rfl (fun K hK => ?_) AllReadyH.nil
        rw [if_pos (by rfl)]
        go_simp
        refine (l2Char_any v3 el hlet).mono ?_
        rintro e v4 ⟨rfl, hb4⟩
        have z0 := below_cell y0 hb4 (Nat.lt_of_lt_of_le hltn hb3.size)
        have z1 := below_cell y1 hb4 (Nat.lt_of_lt_of_le hltn hb3.size)
        have z2 := below_cell y2 hb4 (Nat.lt_of_lt_of_le hltn hb3.size)
        refine hK.out _ _ ?_ (fun hHeld => ?_)
        · try dsimp only
          first | ((repeat' apply And.intro) <;> assumption) | (rw [← hwd.out]; ((repeat' apply And.intro) <;> assumption))
        clear hK
        try simp only [Act.put, List.setIfInBounds_toArray, List.set_cons_zero, List.set_cons_succ]
        refine take_at 9 38 (v := ?_) rfl (by kernel_rfl) (by kernel_rfl) (by kernel_rfl) (by kernel_rfl) hpan (Or.inl ⟨by rfl, ?_⟩) (by assumption) ?_
        rotate_left
        · intro w hSw; (try dsimp only at hSw); go_simp; with_reducible rfl
        simp only [Act.put, List.setIfInBounds_toArray, List.set_cons_zero, List.set_cons_succ]
        refine wpAnyH_ready (rs := [12]) (by kernel_rfl) (by simp) ?_
        refine AllReadyH.cons rfl (fun K hK => ?_) AllReadyH.nil
        rw [if_pos (by rfl)]
        go_simp
        refine (hft v4).mono ?_
        rintro e v5 ⟨rfl, hb5⟩
        have t0 := below_cell z0 hb5 (Nat.lt_of_lt_of_le hltn (Nat.le_trans hb3.size hb4.size))
        have t1 := below_cell z1 hb5 (Nat.lt_of_lt_of_le hltn (Nat.le_trans hb3.size hb4.size))
        have t2 := below_cell z2 hb5 (Nat.lt_of_lt_of_le hltn (Nat.le_trans hb3.size hb4.size))
        refine hK.out _ _ ?_ (fun hHeld => ?_)
        · try dsimp only
          first | ((repeat' apply And.intro) <;> assumption) | (rw [← hwd.out]; ((repeat' apply And.intro) <;> assumption))
        clear hK
        try simp only [Act.put, List.setIfInBounds_toArray, List.set_cons_zero, List.set_cons_succ]
        refine take_at 13 42 (v := ?_) rfl (by kernel_rfl) (by kernel_rfl) (by kernel_rfl) (by kernel_rfl) hpan (Or.inl ⟨by rfl, ?_⟩) (by assumption) ?_
        rotate_left
        · intro w hSw; (try dsimp only at hSw); go_simp; with_reducible rfl
        simp only [Act.put, List.setIfInBounds_toArray, List.set_cons_zero, List.set_cons_succ]
        refine take_at 14 3 (v := ?_) rfl (by kernel_rfl) (by kernel_rfl) (by kernel_rfl) (by kernel_rfl) hpan (Or.inl ⟨by rfl, ?_⟩) (by assumption) ?_
        rotate_left
        · intro w hSw; (try dsimp only at hSw); go_simp; with_reducible rfl
        simp only [Act.put, List.setIfInBounds_toArray, List.set_cons_zero, List.set_cons_succ]
        refine wpAnyH_done (by kernel_rfl) ?_ _
        refine hnorm _ _ ?_
        clear hnorm hpan
        repeat clear hHeld
        try simp only [Exit.then]
        have hbz := hidI (hb.out.trans ((hbn.trans ((hbd.trans ((hb3.trans ((hb4.trans (hb5.mono hb4.size)).mono hb3.size)).mono hbd.size)).mono hbn.size)).mono hsz))
        clear hb3 hb4 hb5 x0 x1 x2 y0 y1 y2 z0 z1 z2 t0 t1 t2
        go_wp2
        go_roundg (n - (k + 1))
        case rel => exact ⟨k + 1, _, by have := hk.out; omega, by go_num, rfl, hA', hAz', hbz⟩
        case measure => have := hk.out; omega
      · obtain rfl : k = n := by omega
        have hfull : es.take k = es := List.take_of_length_le (by rw [← hn.out]; omega)
        have hfin : A.data.toList = T := by rw [hA.out, hTn.out, hfull]; rfl
        have hki : ¬ (k : Int) < (k : Int) := by omega
        have hbq := hb1.trans (hb.out.mono hb1.size)
        replace hfin := hidI hfin
        replace hk := hidI hk
        replace hfull := hidI hfull
        go_wp2
        go_ret
        exact ⟨str_eq hfin.out, hbq⟩
end Go.Proofs.YtkmhncbakfnfeaaDoor
