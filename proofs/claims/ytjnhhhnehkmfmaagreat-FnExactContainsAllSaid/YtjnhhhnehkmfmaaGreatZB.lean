/- Subgroups, the model: Contains, ContainsAll (tools/zb.py). -/
import Derived.Test.YtjnhhhnehkmfmaaGreatZA
import Derived.Test.YtjnhhhnehkmfmaaGreatQE
import Derived.Test.YtjnhhhnehkmfmaaGreatQD
import Derived.Test.YtjnhhhnehkmfmaaGreatRE
import Derived.Deep.Cut
import Derived.Deep.LoopGhost
import Derived.Deep.RegionHeld3
namespace Go.Proofs.YtjnhhhnehkmfmaaGreat
open Go.RowKit
set_option linter.unusedVariables false
set_option linter.unusedSimpArgs false

/-- Contains' answer. -/
def inSu (r s : Int) (es : List Ed) (zs : List Int) : Bool := isCo r s es && walkB r s es 0 (redL zs) && decide (walkV r s es 0 (redL zs) = 0)
/-- ContainsAll's answer. -/
def inAll (r s : Int) (es : List Ed) (zss : List (List Int)) : Bool := zss.all (inSu r s es) && isCo r s es
set_option maxRecDepth 100000 in
set_option maxHeartbeats 3200000 in
theorem specCont (w : World) (r s : Int) (v : Value) (es : List Ed) (vz : Value) (zs : List Int) (h : ReadE w.heap.size w v es) (hz : ReadI w.heap.size w vz zs) (hs : -9223372036854775808 ≤ s ∧ s ≤ 9223372036854775807) (hin : InR zs) (hl : es.length ≤ 10000000) (hlz : zs.length ≤ 10000000) :
    Calls Tryz.prog 30 #[.agg #[.int .i64 r, .int .i64 s, v], vz] w (LwBool w (inSu r s es zs)) := by
  obtain ⟨a, cap, rfl, hnc⟩ := h.form
  have hz' := hz
  obtain ⟨_, az, capz, rfl, _, _⟩ := hz'
  have hin2 := redL_in hin
  have hrl := redL_length zs
  obtain ⟨n, hn⟩ : ∃ n, n = es.length := ⟨_, rfl⟩
  obtain ⟨w1, hw1⟩ : ∃ w1, w1 = w.alloc (.cells #[.int .i64 r, .int .i64 s, .slice a n cap] 26) := ⟨_, rfl⟩
  have hb1 : Below w.heap.size w w1 := by rw [hw1]; exact (Below.refl _ _).alloc (Nat.le_refl _) _
  have hs1 : w.heap.size < w1.heap.size := by rw [hw1]; simp
  obtain ⟨g0, g1, g2⟩ := box3 hw1
  obtain ⟨wd, hwd⟩ : ∃ z, z = w1.drew := ⟨_, rfl⟩
  have hbd : Below w1.heap.size w1 wd := by rw [hwd]; exact below_dn (Below.refl _ _) 1
  have hsd := hbd.size
  replace g0 := below_cell g0 hbd hs1
  replace g1 := below_cell g1 hbd hs1
  replace g2 := below_cell g2 hbd hs1
  have hb1d := hb1.trans (hbd.mono hb1.size)
  have hsw : w.heap.size < wd.heap.size := by omega
  have hred := specRed wd (.slice az zs.length capz) zs ((hz.below hb1d).mono hb1d.size) (by omega)
  obtain ⟨F, hF⟩ : ∃ F, F = inSu r s es zs := ⟨_, rfl⟩
  obtain ⟨RL, hRL⟩ : ∃ z, z = redL zs := ⟨_, rfl⟩
  rw [← hRL] at hred hin2 hrl
  obtain ⟨V, hV⟩ : ∃ z, z = walkV r s es 0 RL := ⟨_, rfl⟩
  obtain ⟨KW, hKK⟩ : ∃ z, z = walkB r s es 0 RL := ⟨_, rfl⟩
  obtain ⟨B, hB⟩ : ∃ z, z = isCo r s es := ⟨_, rfl⟩
  have hFe : F = (B && KW && decide (V = 0)) := by rw [hF, hB, hKK, hV, hRL]; rfl
  rw [← hF]
  rw [← hn] at hl hnc ⊢
  rw [← hn] at h
  obtain ⟨m, hm⟩ : ∃ m, m = zs.length := ⟨_, rfl⟩
  rw [← hm] at hred hlz hrl ⊢
  have hsub := fun (W : World) (hW : Below w.heap.size w W) => specIsSub W r s (.slice a n cap) es ((h.below hW).mono hW.size) hs (by omega)
  rw [← hB] at hsub
  replace hsub := hidI hsub
  replace hFe := hidI hFe
  replace hF := hidI hF
  replace hB := hidI hB
  replace hKK := hidI hKK
  replace hV := hidI hV
  replace hRL := hidI hRL
  replace hn := hidI hn
  replace hm := hidI hm
  replace h := hidI h
  replace hz := hidI hz
  replace hin := hidI hin
  replace hin2 := hidI hin2
  replace hw1 := hidI hw1
  replace hwd := hidI hwd
  replace hb1d := hidI hb1d
  clear hb1 hbd
  go_enter Tryz.func30, Tryz.ntmps30
  go_wp2
  rw [← hw1.out]
  refine hideQ (fun _ _ d _ _ h => by cases d <;> exact h) (fun Q' hnorm hpan => ?_)
  refine wp_region_held_drew (S := (fun W0 => W0.cell? ⟨w.heap.size, 0, none⟩ = some (.int .i64 r) ∧ W0.cell? ⟨w.heap.size, 1, none⟩ = some (.int .i64 s) ∧ W0.cell? ⟨w.heap.size, 2, none⟩ = some (.slice a n cap))) (by kernel_rfl) ?_ (fun hHeld => ?_)
  · try dsimp only
    first | ((repeat' apply And.intro) <;> assumption) | (rw [← hwd.out]; ((repeat' apply And.intro) <;> assumption))
  rw [← hwd.out] at hHeld ⊢
  refine tk 0 8 ?_
  refine tk 1 9 ?_
  refine rd 2 (fun K hK => ?_)
  rw [if_pos (by rfl)]
  go_simp
  refine hred.mono ?_
  rintro e w2 ⟨v1, rfl, hr1, hb2⟩
  clear hred
  replace g0 := below_cell g0 hb2 hsw
  replace g1 := below_cell g1 hb2 hsw
  replace g2 := below_cell g2 hb2 hsw
  have hs2 : w.heap.size < w2.heap.size := by have := hb2.size; omega
  have hb12 := hidI (hb1d.out.trans (hb2.mono hb1d.out.size))
  have hcc := specWalk w2 r s (.slice a n cap) es 0 v1 RL ((h.out.below hb12.out).mono hb12.out.size) hr1.read hs (by omega) hin2.out (by have := hn.out; omega) (by have := hm.out; omega)
  rw [← hV.out, ← hKK.out] at hcc
  replace hr1 := hidI hr1
  refine hK.out _ _ ?_ (fun hHeld => ?_)
  · try dsimp only
    first | ((repeat' apply And.intro) <;> assumption) | (rw [← hwd.out]; ((repeat' apply And.intro) <;> assumption))
  clear hK
  try simp only [Act.put, List.setIfInBounds_toArray, List.set_cons_zero, List.set_cons_succ]
  refine rd 3 (fun K hK => ?_)
  rw [if_pos (by rfl)]
  go_simp
  refine hcc.mono ?_
  rintro e w3 ⟨rfl, hb3⟩
  clear hcc
  replace g0 := below_cell g0 hb3 hs2
  replace g1 := below_cell g1 hb3 hs2
  replace g2 := below_cell g2 hb3 hs2
  have hs3 : w.heap.size < w3.heap.size := by have := hb3.size; omega
  have hb13 := hidI (hb12.out.trans (hb3.mono hb12.out.size))
  refine hK.out _ _ ?_ (fun hHeld => ?_)
  · try dsimp only
    first | ((repeat' apply And.intro) <;> assumption) | (rw [← hwd.out]; ((repeat' apply And.intro) <;> assumption))
  clear hK
  try simp only [Act.put, List.setIfInBounds_toArray, List.set_cons_zero, List.set_cons_succ]
  refine tk 4 7 ?_
  refine tk 5 12 ?_
  refine tk 6 13 ?_
  refine tk 7 5 ?_
  refine tk 8 6 ?_
  refine wpAnyH_done (by kernel_rfl) ?_ _
  refine hnorm _ _ ?_
  clear hnorm hpan
  repeat clear hHeld
  try simp only [Exit.then]
  have hcc := hsub.out w3 hb13.out
  go_wp2_with fail
  refine hcc.mono ?_
  rintro e w4 ⟨rfl, hb4⟩
  clear hcc
  have hbz := hidI (hb13.out.trans (hb4.mono hb13.out.size))
  replace hb4 := hidI hb4
  cases B with
  | false =>
    have hfin : Hid (F = false) := hidI hFe.out
    replace hFe := hidI hFe
    replace hB := hidI hB
    go_wp2
    go_ret
    exact ⟨ret_bool hfin.out.symm, hbz.out⟩
  | true =>
    cases KW with
    | false =>
      have hfin : Hid (F = false) := hidI hFe.out
      replace hFe := hidI hFe
      replace hB := hidI hB
      replace hKK := hidI hKK
      go_wp2
      go_ret
      exact ⟨ret_bool hfin.out.symm, hbz.out⟩
    | true =>
      replace hB := hidI hB
      replace hKK := hidI hKK
      by_cases e : V = 0
      · have hfin : Hid (F = true) := hidI (by rw [hFe.out, decide_eq_true e]; rfl)
        have he : (V == 0) = true := by rw [beq_iff_eq]; exact e
        replace e := hidI e
        replace hFe := hidI hFe
        go_wp2
        go_ret
        exact ⟨ret_bool hfin.out.symm, hbz.out⟩
      · have hfin : Hid (F = false) := hidI (by rw [hFe.out, decide_eq_false e]; rfl)
        have he : (V == 0) = false := by rw [beq_eq_false_iff_ne]; exact e
        replace e := hidI e
        replace hFe := hidI hFe
        go_wp2
        go_ret
        exact ⟨ret_bool hfin.out.symm, hbz.out⟩
theorem inAll_no {r s : Int} {es : List Ed} {zss : List (List Int)} {k : Nat} (hk : k < zss.length) (h : inSu r s es (zss.getD k []) = false) : inAll r s es zss = false := by
  unfold inAll
  rw [Bool.and_eq_false_iff]
  left
  rw [List.all_eq_false]
  refine ⟨zss.getD k [], ?_, by simpa using h⟩
  rw [List.getD_eq_getElem?_getD, List.getElem?_eq_getElem hk]
  exact List.getElem_mem hk
theorem inAll_yes {r s : Int} {es : List Ed} {zss : List (List Int)} (h : ∀ j, j < zss.length → inSu r s es (zss.getD j []) = true) : inAll r s es zss = isCo r s es := by
  unfold inAll
  rw [List.all_eq_true.2 (fun z hz => by
    obtain ⟨j, hj, e⟩ := List.getElem_of_mem hz
    have := h j hj
    rw [List.getD_eq_getElem?_getD, List.getElem?_eq_getElem hj] at this
    rw [← e]; exact this), Bool.true_and]
set_option maxRecDepth 100000 in
set_option maxHeartbeats 3200000 in
theorem specContAll (w : World) (r s : Int) (v : Value) (es : List Ed) (vz : Value) (zss : List (List Int)) (h : ReadE w.heap.size w v es) (hz : ReadSS w.heap.size w vz zss) (hs : -9223372036854775808 ≤ s ∧ s ≤ 9223372036854775807) (hin : ∀ zs ∈ zss, InR zs) (hl : es.length ≤ 10000000) (hlz : sumN (zss.map List.length) ≤ 10000000) :
    Calls Tryz.prog 15 #[.agg #[.int .i64 r, .int .i64 s, v], vz] w (LwBool w (inAll r s es zss)) := by
  obtain ⟨a, cap, rfl, hnc⟩ := h.form
  have hz' := hz
  obtain ⟨hlen, az, capz, rfl, _, _⟩ := hz'
  obtain ⟨n, hn⟩ : ∃ n, n = es.length := ⟨_, rfl⟩
  rw [← hn] at hl hnc ⊢
  rw [← hn] at h
  obtain ⟨m, hm⟩ : ∃ m, m = zss.length := ⟨_, rfl⟩
  rw [← hm] at hlen ⊢
  rw [← hm] at hz
  obtain ⟨w1, hw1⟩ : ∃ w1, w1 = w.alloc (.cells #[.int .i64 r, .int .i64 s, .slice a n cap] 26) := ⟨_, rfl⟩
  have hb1 : Below w.heap.size w w1 := by rw [hw1]; exact (Below.refl _ _).alloc (Nat.le_refl _) _
  have hs1 : w.heap.size < w1.heap.size := by rw [hw1]; simp
  obtain ⟨g0, g1, g2⟩ := box3 hw1
  have hzl : ∀ i, i < m → (zss.getD i []).length ≤ 10000000 := fun i hi => by
    have h1 := sumN_getD (zss.map List.length) i (by rw [List.length_map]; omega)
    rw [getD_map_len] at h1

    omega
  have hcont := fun (W : World) (hW : Below w.heap.size w W) (u : Value) (zs : List Int) (hu : ReadI w.heap.size w u zs) (hi : InR zs) (hl2 : zs.length ≤ 10000000) => specCont W r s (.slice a n cap) es u zs ((h.below hW).mono hW.size) ((hu.below hW).mono hW.size) hs hi (by omega) hl2
  have hsub := fun (W : World) (hW : Below w.heap.size w W) => specIsSub W r s (.slice a n cap) es ((h.below hW).mono hW.size) hs (by omega)
  obtain ⟨F, hF⟩ : ∃ F, F = inAll r s es zss := ⟨_, rfl⟩
  rw [← hF]
  replace hF := hidI hF
  replace hn := hidI hn
  replace hm := hidI hm
  replace h := hidI h
  replace hz := hidI hz
  replace hin := hidI hin
  replace hw1 := hidI hw1
  replace hcont := hidI hcont
  replace hsub := hidI hsub
  replace hzl := hidI hzl
  have hk0 : Hid (Below w.heap.size w w1) := hidI hb1
  go_enter Tryz.func15, Tryz.ntmps15
  go_upto_region 1 with fail
  rw [← hw1.out]
  go_wp2
  go_loopg [5] m (fun g x wr => ∃ k : Nat, k + g = m ∧ x = .int .i64 k ∧ Hid (∀ j, j < k → inSu r s es (zss.getD j []) = true) ∧ Hid (Below w1.heap.size w1 wr))
  case atStart => exact ⟨0, by omega, rfl, hidI (fun j h => by omega), hidI (Below.refl _ _)⟩
  case round =>
    obtain ⟨k, hk, rfl, heq, hb⟩ := hrel
    have p0 := below_cell g0 hb.out hs1
    have p1 := below_cell g1 hb.out hs1
    have p2 := below_cell g2 hb.out hs1
    have hbw := hidI (hb1.trans (hb.out.mono hb1.size))
    by_cases hlt : k < m
    · have hki : (k : Int) < (m : Int) := by omega
      obtain ⟨b, off, u, rfl, hbl, c, r0⟩ := hz.out.at_ k (by have := hm.out; omega)
      have cw := below_cell c hbw.out hbl
      obtain ⟨zs, hzs⟩ : ∃ z, z = zss.getD k [] := ⟨_, rfl⟩
      obtain ⟨wd, hwd⟩ : ∃ z, z = wr.drew := ⟨_, rfl⟩
      have hbd : Below wr.heap.size wr wd := by rw [hwd]; exact below_dn (Below.refl _ _) 1
      have hbwd := hidI (hbw.out.trans (hbd.mono hbw.out.size))
      have hwr := hbw.out.size
      have hwr1 := hb.out.size
      have x0 := below_cell p0 hbd (by omega)
      have x1 := below_cell p1 hbd (by omega)
      have x2 := below_cell p2 hbd (by omega)
      have x3 := below_cell cw hbd (by omega)
      have hcl := hcont.out wd hbwd.out u (zss.getD k []) r0 (hin.out _ (by
        have hkl : k < zss.length := by have := hm.out; omega
        rw [List.getD_eq_getElem?_getD, List.getElem?_eq_getElem hkl]
        exact List.getElem_mem hkl)) (hzl.out k hlt)
      obtain ⟨I, hI⟩ : ∃ z, z = inSu r s es (zss.getD k []) := ⟨_, rfl⟩
      rw [← hI] at hcl
      replace hI := hidI hI
      replace hk := hidI hk
      replace hwd := hidI hwd
      clear c r0
      go_wp2
      refine hideQ (fun _ _ d _ _ h => by cases d <;> exact h) (fun Q' hnorm hpan => ?_)
      refine wp_region_held_drew (S := (fun W0 => W0.cell? ⟨w.heap.size, 0, none⟩ = some (.int .i64 r) ∧ W0.cell? ⟨w.heap.size, 1, none⟩ = some (.int .i64 s) ∧ W0.cell? ⟨w.heap.size, 2, none⟩ = some (.slice a n cap) ∧ W0.cell? ⟨b, off + k, none⟩ = some u)) (by kernel_rfl) ?_ (fun hHeld => ?_)
      · try dsimp only
        first | ((repeat' apply And.intro) <;> assumption) | (rw [← hwd.out]; ((repeat' apply And.intro) <;> assumption))
      rw [← hwd.out] at hHeld ⊢
      refine tk 0 12 ?_
      refine tk 1 13 ?_
      refine tk 2 14 ?_
      refine tk 3 15 ?_
      refine tk 4 16 ?_
      refine rd 5 (fun K hK => ?_)
      rw [if_pos (by rfl)]
      go_simp
      refine hcl.mono ?_
      rintro e w3 ⟨rfl, hb3⟩
      clear hcl
      have hsd := hbd.size
      replace x0 := below_cell x0 hb3 (by omega)
      replace x1 := below_cell x1 hb3 (by omega)
      replace x2 := below_cell x2 hb3 (by omega)
      replace x3 := below_cell x3 hb3 (by omega)
      refine hK.out _ _ ?_ (fun hHeld => ?_)
      · try dsimp only
        first | ((repeat' apply And.intro) <;> assumption) | (rw [← hwd.out]; ((repeat' apply And.intro) <;> assumption))
      clear hK
      try simp only [Act.put, List.setIfInBounds_toArray, List.set_cons_zero, List.set_cons_succ]
      refine tk 6 18 ?_
      refine wpAnyH_done (by kernel_rfl) ?_ _
      refine hnorm _ _ ?_
      clear hnorm hpan
      repeat clear hHeld
      try simp only [Exit.then]
      have hb13 := hidI (hb.out.trans (hbd.trans (hb3.mono hbd.size) |>.mono hb.out.size))
      have hbz := hidI (hbwd.out.trans (hb3.mono hbwd.out.size))
      clear hbd hb3
      cases I with
      | true =>
        have hnx : Hid (∀ j, j < k + 1 → inSu r s es (zss.getD j []) = true) := hidI fun j hj => by
          by_cases e : j = k
          · subst e; exact hI.out.symm
          · exact heq.out j (by omega)
        replace hI := hidI hI
        go_wp2
        go_roundg (m - (k + 1))
        case rel => exact ⟨k + 1, by have := hk.out; omega, by go_num, hnx, hb13⟩
        case measure => have := hk.out; omega
      | false =>
        have hfin : Hid (F = false) := hidI (by rw [hF.out]; exact inAll_no (by have := hm.out; omega) hI.out.symm)
        replace hI := hidI hI
        go_wp2
        go_ret
        exact ⟨ret_bool hfin.out.symm, hbz.out⟩
    · obtain rfl : k = m := by omega
      have hki : ¬ (k : Int) < (k : Int) := by omega
      have hfin : F = isCo r s es := by rw [hF.out]; exact inAll_yes (fun j hj => heq.out j (by have := hm.out; omega))
      have hcc := hsub.out wr hbw.out
      rw [← hfin] at hcc
      replace hfin := hidI hfin
      replace hk := hidI hk
      go_wp2_with fail
      refine hcc.mono ?_
      rintro e w3 ⟨rfl, hb3⟩
      clear hcc
      have hbz := hidI (hbw.out.trans (hb3.mono hbw.out.size))
      go_wp2
      go_ret
      exact ⟨ret_bool rfl, hbz.out⟩
end Go.Proofs.YtjnhhhnehkmfmaaGreat
