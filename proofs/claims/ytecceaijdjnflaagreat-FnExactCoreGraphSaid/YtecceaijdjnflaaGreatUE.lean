/- Cores, the program: RenumberGraph. -/
import Derived.Test.YtecceaijdjnflaaGreatUC
import Derived.Test.YtecceaijdjnflaaGreatUD
import Derived.Test.YtecceaijdjnflaaGreatQF
import Derived.Test.YtecceaijdjnflaaGreatQC
namespace Go.Proofs.YtecceaijdjnflaaGreat
open Go.RowKit
set_option linter.unusedVariables false
set_option linter.unusedSimpArgs false

theorem nm_at {s : Nat} {zs : List Int} {i : Nat} (hi : i < s) : ((plN s zs zs.length).map (fun x => x - 1)).getD i 0 = (plN s zs zs.length).getD i 0 - 1 := by
  have := plN_length s zs zs.length
  rw [List.getD_eq_getElem?_getD, List.getElem?_map, List.getElem?_eq_getElem (by omega), List.getD_eq_getElem?_getD, List.getElem?_eq_getElem (by omega)]; rfl
theorem kept_length (pl : List Int) (es : List Ed) : (kept pl es).length ≤ es.length := by
  unfold kept
  rw [List.length_map]; exact List.length_filter_le _ _
set_option maxRecDepth 100000 in
set_option maxHeartbeats 6400000 in
theorem progRenum (w : World) (r s : Int) (v vo : Value) (es : List Ed) (zs : List Int) (h : ReadE w.heap.size w v es) (hl : es.length ≤ 10000000) (ho : ReadI w.heap.size w vo zs) (hlo : zs.length ≤ 10000000) :
    Calls Tryz.prog 33 #[.agg #[.int .i64 r, .int .i64 s, v], vo] w (LwGraphBool w r (rnS r s es zs) (rnE r s es zs) (okN r s es zs)) := by
  obtain ⟨a, cap, rfl, hnc⟩ := h.form
  have ho' := ho
  obtain ⟨hol, oa, oc, rfl, _, _⟩ := ho'
  obtain ⟨n, hn⟩ : ∃ n, n = es.length := ⟨_, rfl⟩
  obtain ⟨m, hm⟩ : ∃ m, m = zs.length := ⟨_, rfl⟩
  rw [← hn] at h
  rw [← hn] at hl hnc ⊢
  rw [← hm] at hlo ho hol ⊢
  obtain ⟨w1, hw1⟩ : ∃ z, z = (w.alloc (.cells #[.int .i64 r, .int .i64 s, .slice a n cap] 28)).alloc (.cells #[.int .i64 0, .int .i64 0, .slice none 0 0] 28) := ⟨_, rfl⟩
  have hb1 : Below w.heap.size w w1 := by rw [hw1]; exact ((Below.refl _ _).alloc (Nat.le_refl _) _).alloc (by simp) _
  have hs1 : w1.heap.size = w.heap.size + 1 + 1 := by rw [hw1]; simp
  have hg := heap_box w (.cells #[.int .i64 r, .int .i64 s, .slice a n cap] 28) (.cells #[.int .i64 0, .int .i64 0, .slice none 0 0] 28)
  have hR := heap_alloc_new (w.alloc (.cells #[.int .i64 r, .int .i64 s, .slice a n cap] 28)) (.cells #[.int .i64 0, .int .i64 0, .slice none 0 0] 28)
  rw [← hw1] at hg hR
  rw [show (w.alloc (.cells #[.int .i64 r, .int .i64 s, .slice a n cap] 28)).heap.size = w.heap.size + 1 by simp] at hR
  have g0 : w1.cell? ⟨w.heap.size, 0, none⟩ = some (.int .i64 r) := by simpa using cell_of_heap hg 0
  have g1 : w1.cell? ⟨w.heap.size, 1, none⟩ = some (.int .i64 s) := by simpa using cell_of_heap hg 1
  have g2 : w1.cell? ⟨w.heap.size, 2, none⟩ = some (.slice a n cap) := by simpa using cell_of_heap hg 2
  have hnum := numbers_any w1 r s (.slice a n cap) (.slice oa m oc) es zs (by have := (h.below hb1).mono hb1.size; rw [hn] at this ⊢; exact this) (by omega) (by have := (ho.below hb1).mono hb1.size; rw [hm] at this ⊢; exact this) (by omega)
  obtain ⟨O, hO⟩ : ∃ B, B = okN r s es zs := ⟨_, rfl⟩
  obtain ⟨ZS, hZS⟩ : ∃ B, B = rnS r s es zs := ⟨_, rfl⟩
  obtain ⟨ZE, hZE⟩ : ∃ B, B = rnE r s es zs := ⟨_, rfl⟩
  obtain ⟨Z, hZ⟩ : ∃ B, B = nmL r s es zs := ⟨_, rfl⟩
  rw [← hO, ← hZ] at hnum
  rw [← hO, ← hZS, ← hZE]
  have hno : O = false → ZS = s ∧ ZE = es := fun hf => by rw [hZS, hZE]; unfold rnS rnE; rw [← hO, hf]; exact ⟨rfl, rfl⟩
  have hyes : O = true → ZS = (m : Int) ∧ ZE = rnE r s es zs ∧ okN r s es zs = true ∧ Z = (plN s.toNat zs zs.length).map (fun x => x - 1) := fun hf => by
    rw [hZS, hZ]; unfold rnS nmL; rw [← hO, hf, hm]; exact ⟨rfl, hZE, rfl, rfl⟩
  have hRk : ∀ W, Below w1.heap.size w1 W → W.heap[w.heap.size + 1]? = some (.cells #[.int .i64 0, .int .i64 0, .slice none 0 0] 28 (0, 0)) := fun W hW => by rw [hW.block _ (by omega)]; exact hR
  have hcopy := fun (W : World) (hr : ReadE W.heap.size W (.slice a es.length cap) es) => gpCopy W r s _ es hr (by omega)
  rw [← hn] at hcopy
  have hww := hidI hw1.symm
  replace hcopy := hidI hcopy
  replace hno := hidI hno
  replace hyes := hidI hyes
  replace hRk := hidI hRk
  replace hn := hidI hn
  replace hm := hidI hm
  replace h := hidI h
  replace ho := hidI ho
  replace hg := hidI hg
  replace hR := hidI hR
  replace hs1 := hidI hs1
  replace hO := hidI hO
  replace hZS := hidI hZS
  replace hZE := hidI hZE
  replace hZ := hidI hZ
  replace hw1 := hidI hw1
  go_enter Tryz.func33, Tryz.ntmps33
  go_upto_region 1 with fail
  rw [hww.out]
  go_wp2_with fail
  refine hnum.mono ?_
  rintro e w2 ⟨nv, rfl, hrow, hb2⟩
  clear hnum
  have hlt1 : w.heap.size + 1 < w1.heap.size := by have := hs1.out; omega
  have hlt2 : w.heap.size + 1 < w2.heap.size := by have := hb2.size; omega
  replace g0 := below_cell g0 hb2 (by omega)
  replace g1 := below_cell g1 hb2 (by omega)
  replace g2 := below_cell g2 hb2 (by omega)
  have hb12 := hidI (hb1.trans (hb2.mono hb1.size))
  have hb12' := hidI hb2
  clear hb2
  cases O with
  | false =>
    obtain ⟨hZS0, hZE0⟩ := hno.out rfl
    have hcc := hcopy.out w2 ((h.out.below hb12.out).mono hb12.out.size)
    replace hZS0 := hidI hZS0
    replace hZE0 := hidI hZE0
    replace hrow := hidI hrow
    go_wp2_with fail
    refine hcc.mono ?_
    rintro e w5 ⟨ca, cc, rfl, hrow5, hb5⟩
    rw [← hn.out]
    rw [← hn.out] at hrow5
    clear hcc
    have hb15 : Below w.heap.size w w5 := hb12.out.trans (hb5.mono hb12.out.size)
    have hR5 := hRk.out w5 (hb12'.out.trans (hb5.mono hb12'.out.size))
    have y0 := cell_of_heap hR5 0
    have y1 := cell_of_heap hR5 1
    have y2 := cell_of_heap hR5 2
    have f2 := fun j => frozen_of_row w5 (w.heap.size + 1) j _ _ hR5
    simp at y0 y1 y2
    have hfin : LwGraphBool w r s es false (.returned (.tuple #[.agg #[.int .i64 r, .int .i64 s, .slice ca n cc], .bool false])) (((w5.setCell ⟨w.heap.size + 1, 0, none⟩ (.int .i64 r)).setCell ⟨w.heap.size + 1, 1, none⟩ (.int .i64 s)).setCell ⟨w.heap.size + 1, 2, none⟩ (.slice ca n cc)) := by
      have hrw := hrow5
      rw [hn.out] at hrw
      rw [hn.out]
      exact ⟨ca, cc, rfl, (RowS.set3_ hrw (.inl hlt2)).wide hb12.out.size (by rw [size_set3]; exact Nat.le_refl _), below_set3 hb15 (by omega)⟩
    have hset := set3 hR5 (.int .i64 r) (.int .i64 s) (.slice ca n cc)
    replace hfin := hidI hfin
    replace hset := hidI hset
    replace hR5 := hidI hR5
    replace hrow5 := hidI hrow5
    replace hb5 := hidI hb5
    replace hb15 := hidI hb15
    clear g0 g1 g2
    go_wp2
    (try simp only [Exit.inBlock, Exit.then])
    refine ret_cell2 (x := .bool false) rfl rfl rfl hset.out Tryz.underlying28 sizeGraph ?_
    rw [hZS0.out, hZE0.out]
    exact hfin.out
  | true =>
    obtain ⟨hZS1, hZE1, hok, hZ1⟩ := hyes.out rfl
    have hgr := (okN_iff.1 hok).1
    have hlim := isGr_lim hgr
    obtain ⟨sN, rfl⟩ : ∃ sN : Nat, s = (sN : Int) := ⟨s.toNat, by omega⟩
    rw [Int.toNat_natCast] at hZ1
    have hsN : sN ≤ 40 ∧ 1 ≤ sN := by omega
    have hn120 : n ≤ 120 := by have := hn.out; omega
    have hin := plN_in sN zs zs.length
    have hplen := plN_length sN zs zs.length
    have hcell : ∀ i, i < sN → Z.getD i 0 = (plN sN zs zs.length).getD i 0 - 1 := fun i hi => by rw [hZ1]; exact nm_at hi
    have hZl : Z.length = sN := by rw [hZ1, List.length_map]; exact hplen
    have hmz : zs.length ≤ 40 := by have := (okN_iff.1 hok).2.2.len; simp at this; omega
    obtain ⟨gz, oz, zc, rfl, hgz1, hgz2⟩ := hrow.form (by omega)
    rw [hZl] at hrow ⊢
    obtain ⟨PL, hPL⟩ : ∃ PL, PL = plN sN zs zs.length := ⟨_, rfl⟩
    rw [← hPL] at hin hcell
    have hrd := hrow.read
    replace hrow := hidI hrow
    replace hrd := hidI hrd
    replace hin := hidI hin
    replace hcell := hidI hcell
    replace hZ1 := hidI hZ1
    replace hZS1 := hidI hZS1
    replace hZE1 := hidI hZE1
    replace hok := hidI hok
    replace hgr := hidI hgr
    replace hlim := hidI hlim
    replace hPL := hidI hPL
    replace hplen := hidI hplen
    replace hZl := hidI hZl
    have hst0 : Hid (OwnsE w2 w2.heap.size (.slice none 0 0) (kept PL (es.take 0))) := hidI (OwnsS.nil _ _)
    go_wp2
    go_loopg [8, 26] n (fun g u i wr => ∃ k : Nat, k + g = n ∧ i = .int .i64 k ∧ Hid (OwnsE wr w2.heap.size u (kept PL (es.take k))) ∧ Hid (Below w2.heap.size w2 wr))
    case atStart => exact ⟨0, by omega, rfl, hst0, hidI (Below.refl _ _)⟩
    case round =>
      clear hst0
      obtain ⟨k, hk, rfl, hst, hb⟩ := hrel
      have q2 := below_cell g2 hb.out (by omega)
      have hbr := hidI (hb12.out.trans (hb.out.mono hb12.out.size))
      have hsz := hb.out.size
      obtain ⟨ua, um, uc, rfl⟩ := OwnsS.form3 hst.out
      by_cases hlt : k < n
      · have hki : (k : Int) < (n : Int) := by omega
        have hjl : k < es.length := by have := hn.out; omega
        obtain ⟨b, off, hab, hBb, x0, x1, x2⟩ := ReadE.at3 (h.out.below hbr.out) k hjl
        subst hab
        have hee := gr_mem8 hgr.out (e := es.getD k e0) (by rw [getE_el hjl]; exact List.getElem_mem hjl)
        have hkn : kept PL (es.take (k + 1)) = if inP PL (es.getD k e0) = true then kept PL (es.take k) ++ [numE PL (es.getD k e0)] else kept PL (es.take k) := by rw [take_oneE8 hjl, kept_snoc]
        have hkl := kept_length PL (es.take k)
        rw [List.length_take] at hkl
        obtain ⟨f, hf⟩ : ∃ z, z = (es.getD k e0).1 := ⟨_, rfl⟩
        obtain ⟨l, hll⟩ : ∃ z, z = (es.getD k e0).2.1 := ⟨_, rfl⟩
        obtain ⟨t, ht⟩ : ∃ z, z = (es.getD k e0).2.2 := ⟨_, rfl⟩
        unfold inP numE at hkn
        rw [← hf, ← hll, ← ht] at hkn
        rw [← hf] at x0
        rw [← hll] at x1
        rw [← ht] at x2
        rw [← hf, ← ht] at hee
        obtain ⟨fN, hfN⟩ : ∃ fN : Nat, f = (fN : Int) := ⟨f.toNat, by omega⟩
        subst hfN
        obtain ⟨tN, htN⟩ : ∃ tN : Nat, t = (tN : Int) := ⟨t.toNat, by omega⟩
        subst htN
        rw [Int.toNat_natCast, Int.toNat_natCast] at hkn
        have hfs : fN < sN := by omega
        have hts : tN < sN := by omega
        have hfi : (fN : Int) < (sN : Int) := by omega
        have hti : (tN : Int) < (sN : Int) := by omega
        have hcA := hcell.out fN hfs
        have hcB := hcell.out tN hts
        have hiA := hin.out fN
        have hiB := hin.out tN
        obtain ⟨A, hA⟩ : ∃ z, z = PL.getD fN 0 - 1 := ⟨_, rfl⟩
        obtain ⟨Q, hQ⟩ : ∃ z, z = PL.getD tN 0 - 1 := ⟨_, rfl⟩
        have hAp : (0 < PL.getD fN 0 ↔ A ≠ -1) := by omega
        have hQp : (0 < PL.getD tN 0 ↔ Q ≠ -1) := by omega
        have hAb : -1 ≤ A ∧ A ≤ 40 := by omega
        have hQb : -1 ≤ Q ∧ Q ≤ 40 := by omega
        have hdec : decide (0 < PL.getD fN 0 ∧ 0 < PL.getD tN 0) = decide (A ≠ -1 ∧ Q ≠ -1) := decide_eq_decide.2 (and_congr hAp hQp)
        rw [hdec, ← hA, ← hQ] at hkn
        clear hdec
        rw [← hA] at hcA
        rw [← hQ] at hcB
        obtain ⟨w4, hw4⟩ : ∃ z, z = wr.alloc (.cells #[.int .i64 fN, .int .i64 l, .int .i64 tN] 54) := ⟨_, rfl⟩
        have hb4 : Below wr.heap.size wr w4 := by rw [hw4]; exact (Below.refl _ _).alloc (Nat.le_refl _) _
        have hs4 : wr.heap.size < w4.heap.size := by rw [hw4]; simp
        obtain ⟨e0_, e1_, e2_⟩ := box3 hw4
        have hrd4 := hrd.out.below (hb.out.trans (hb4.mono hsz))
        obtain ⟨b1, o1, hab1, hB1, cA⟩ := hrd4.at2 fN (by have := hZl.out; omega)
        obtain ⟨b2, o2, hab2, hB2, cB⟩ := hrd4.at2 tN (by have := hZl.out; omega)
        simp only [Option.some.injEq, Addr.mk.injEq, and_true] at hab1 hab2
        obtain ⟨rfl, rfl⟩ := hab1
        obtain ⟨rfl, rfl⟩ := hab2
        rw [hcA] at cA
        rw [hcB] at cB
        have hown4 : Hid (OwnsE w4 w2.heap.size (.slice ua um uc) (kept PL (es.take k))) := hidI (OwnsS.later hst.out hb4 (Nat.le_refl _))
        have hb24 := hidI (hb.out.trans (hb4.mono hsz))
        have hgrw : gz < wr.heap.size := by omega
        replace hf := hidI hf
        replace hll := hidI hll
        replace ht := hidI ht
        replace hA := hidI hA
        replace hQ := hidI hQ
        replace hk := hidI hk
        replace hee := hidI hee
        replace hst := hidI hst
        replace hkl := hidI hkl
        replace hiA := hidI hiA
        replace hiB := hidI hiB
        clear hAp hQp hcA hcB
        go_upto_region 8 with fail
        rw [← hw4]
        replace hw4 := hidI hw4
        clear x0 x1 x2 q2
        go_region
        have hown0 : Hid (OwnsE w4.drew w2.heap.size (.slice ua um uc) (kept PL (es.take k))) := hidI hown4.out
        have hb20 : Hid (Below w2.heap.size w2 w4.drew) := hidI (below_dn hb24.out 1)
        have hs0 : wr.heap.size < w4.drew.heap.size := hs4
        by_cases hA0 : A = -1
        case pos =>
          have hnx : kept PL (es.take (k + 1)) = kept PL (es.take k) := by rw [hkn, if_neg]; rw [decide_eq_true_eq]; omega
          have hst7 : Hid (OwnsE w4.drew w2.heap.size (.slice ua um uc) (kept PL (es.take (k + 1)))) := hidI (by rw [hnx]; exact hown0.out)
          have hne : (A != -1) = false := by rw [bne_eq_false_iff_eq]; exact hA0
          replace hnx := hidI hnx
          replace hkn := hidI hkn
          go_wp2
          go_roundg (n - (k + 1))
          case rel => exact ⟨k + 1, by have := hk.out; omega, by go_num, hst7, hb20⟩
          case measure => have := hk.out; omega
        have hneA : (A != -1) = true := by rw [bne_iff_ne]; exact hA0
        by_cases hQ0 : Q = -1
        case pos =>
          have hnx : kept PL (es.take (k + 1)) = kept PL (es.take k) := by rw [hkn, if_neg]; rw [decide_eq_true_eq]; omega
          have hst7 : Hid (OwnsE w4.drew w2.heap.size (.slice ua um uc) (kept PL (es.take (k + 1)))) := hidI (by rw [hnx]; exact hown0.out)
          have hne : (Q != -1) = false := by rw [bne_eq_false_iff_eq]; exact hQ0
          replace hnx := hidI hnx
          replace hkn := hidI hkn
          go_wp2
          go_roundg (n - (k + 1))
          case rel => exact ⟨k + 1, by have := hk.out; omega, by go_num, hst7, hb20⟩
          case measure => have := hk.out; omega
        have hneQ : (Q != -1) = true := by rw [bne_iff_ne]; exact hQ0
        have hnx : kept PL (es.take (k + 1)) = kept PL (es.take k) ++ [(A, l, Q)] := by rw [hkn, if_pos]; rw [decide_eq_true_eq]; exact ⟨hA0, hQ0⟩
        replace hnx := hidI hnx
        replace hkn := hidI hkn
        obtain ⟨F, hF⟩ : ∃ F, F = kept PL (es.take k) := ⟨_, rfl⟩
        rw [← hF] at hown0 hkl hnx
        replace hF := hidI hF
        go_wp2_with (at_builtin; go_must (refine wpList_pushE rfl _ _ rfl w2.heap.size (.slice ua um uc) F _ _ _ rfl rfl hown0.out (by have := hkl.out; omega) (by omega) ?_))
        intro v' w6 hown6 hb6
        have hst7 : Hid (OwnsE w6 w2.heap.size v' (kept PL (es.take (k + 1)))) := hidI (by rw [hnx.out]; exact hown6)
        have hb26 := hidI (hb20.out.trans hb6)
        clear hown6 hb6
        go_wp2
        go_roundg (n - (k + 1))
        case rel => exact ⟨k + 1, by have := hk.out; omega, by go_num, hst7, hb26⟩
        case measure => have := hk.out; omega
      · obtain rfl : k = n := by omega
        have hfull : es.take k = es := by rw [hn.out]; exact List.take_length
        rw [hfull] at hst
        have hkl := kept_length PL es
        have hsort := sort_all wr w2.heap.size (.slice ua um uc) (kept PL es) hst.out hsz (by have := hn.out; omega)
        have q0 := below_cell g0 hb.out (by omega)
        replace hfull := hidI hfull
        replace hk := hidI hk
        replace hkl := hidI hkl
        go_wp2_with fail
        refine hsort.mono ?_
        rintro e w5 ⟨rfl, hb5, ds, hp, hs, hown5⟩
        clear hsort
        have hds : ds = ZE := by rw [hZE1.out]; exact ren_sorted hok.out (by rw [Int.toNat_natCast, ← hPL.out]; exact hp) hs
        subst hds
        have hb15 : Below w.heap.size w w5 := hb12.out.trans ((hb.out.trans hb5).mono hb12.out.size)
        have hR5 := hRk.out w5 (hb12'.out.trans ((hb.out.trans hb5).mono hb12'.out.size))
        have z0 := below_cell q0 hb5 (by omega)
        have y0 := cell_of_heap hR5 0
        have y1 := cell_of_heap hR5 1
        have y2 := cell_of_heap hR5 2
        have f2 := fun j => frozen_of_row w5 (w.heap.size + 1) j _ _ hR5
        simp at y0 y1 y2
        have hum := (OwnsS.row hown5 (by have := hp.length_eq; have := hkl.out; have := hn.out; omega)).cap.1
        have hdl : ds.length ≤ 1000 := by have := hp.length_eq; have := hkl.out; have := hn.out; omega
        subst hum
        have hfin : LwGraphBool w r (m : Int) ds true (.returned (.tuple #[.agg #[.int .i64 r, .int .i64 (m : Int), .slice ua ds.length uc], .bool true])) (((w5.setCell ⟨w.heap.size + 1, 0, none⟩ (.int .i64 r)).setCell ⟨w.heap.size + 1, 1, none⟩ (.int .i64 (m : Int))).setCell ⟨w.heap.size + 1, 2, none⟩ (.slice ua ds.length uc)) := by
          refine ⟨ua, uc, rfl, (RowS.set3_ (OwnsS.row hown5 (by omega)) (.inl hlt2)).wide hb12.out.size (by rw [size_set3]; exact Nat.le_refl _), below_set3 hb15 (by omega)⟩
        have hset := set3 hR5 (.int .i64 r) (.int .i64 (m : Int)) (.slice ua ds.length uc)
        replace hfin := hidI hfin
        replace hset := hidI hset
        replace hR5 := hidI hR5
        replace hown5 := hidI hown5
        replace hb5 := hidI hb5
        replace hb15 := hidI hb15
        replace hp := hidI hp
        replace hs := hidI hs
        clear g0 g1 g2 q0 q2
        go_wp2
        (try simp only [Exit.inBlock, Exit.then])
        refine ret_cell2 (x := .bool true) rfl rfl rfl hset.out Tryz.underlying28 sizeGraph ?_
        rw [hZS1.out]
        exact hfin.out
end Go.Proofs.YtecceaijdjnflaaGreat
