/- ParseWords, the model (tools/sp.py). -/
import Derived.Test.YtmafaglgegimfaaDoorSPa
import Derived.Deep.Cut
namespace Go.Proofs.YtmafaglgegimfaaDoor
open Go.RowKit
set_option linter.unusedVariables false
set_option linter.unusedSimpArgs false
set_option maxRecDepth 100000

set_option maxHeartbeats 6400000 in
theorem specParWs (w : World) (r : Int) (s : ByteArray) (hs : s.size ≤ 1048576) :
    Calls Tryd.prog 4 #[.int .i64 r, .string s] w (LwWordsBool w (pwL r s.data.toList) (pwOk r s.data.toList)) := by
  obtain ⟨L, hL⟩ : ∃ L, L = s.data.toList := ⟨_, rfl⟩
  have hlen : L.length = s.size := by rw [hL]; rfl
  obtain ⟨A, hA⟩ : ∃ A, A = pwL r s.data.toList := ⟨_, rfl⟩
  obtain ⟨B, hB⟩ : ∃ B, B = pwOk r s.data.toList := ⟨_, rfl⟩
  rw [← hA, ← hB]
  rw [← hL] at hA hB
  obtain ⟨w1, hw1⟩ : ∃ z, z = w.alloc (.cells #[] 31) := ⟨_, rfl⟩
  have hb1 : Below w.heap.size w w1 := by rw [hw1]; exact (Below.refl _ _).alloc (Nat.le_refl _) _
  have hs1 : w1.heap.size = w.heap.size + 1 := by rw [hw1]; simp
  have hgen : ¬ (L = noneT ∧ 1 ≤ r ∧ r ≤ 3) → Calls Tryd.prog 4 #[.int .i64 r, .string s] w (LwWordsBool w A B) := ?_
  · by_cases hyes : L = noneT ∧ 1 ≤ r ∧ r ≤ 3
    · have hA9 : A = [] := by rw [hA]; unfold pwL; rw [if_pos hyes]
      have hB9 : B = true := by rw [hB]; unfold pwOk; rw [if_pos hyes]
      have hz : (s.toList == [110, 111, 110, 101]) = true := by rw [beq_iff_eq, ByteArray.toList_eq, ← hL]; exact hyes.1
      have hin := in_any w1 r 1 3
      rw [decide_eq_true hyes.2] at hin
      have hfin := rowSS_lit w w w.heap.size rfl (Nat.le_refl _) true (Below.refl _ _)
      rw [hA9, hB9]
      replace hfin := hidI hfin
      replace hyes := hidI hyes
      replace hA9 := hidI hA9
      replace hB9 := hidI hB9
      replace hL := hidI hL
      replace hA := hidI hA
      replace hB := hidI hB
      clear hgen
      go_enter Tryd.func4, Tryd.ntmps4
      go_upto_region 2 with fail
      rw [← hw1]
      have hfin2 : Hid (LwWordsBool w [] true (.returned (.tuple #[.slice (some ⟨w.heap.size, 0, none⟩) 0 0, .bool true])) w1) := hidI (by rw [hw1]; exact hfin.out)
      replace hw1 := hidI hw1
      go_wp2_with fail
      refine hin.mono ?_
      rintro e w2 ⟨rfl, rfl⟩
      clear hin
      go_wp2
      go_ret2
      exact hfin2.out
    · exact hgen hyes
  intro hno
  have hA9 : A = if partsOk r (cutG [] L) = true then (cutG [] L).map (parL r) else [] := by rw [hA]; unfold pwL; rw [if_neg hno]
  have hB9 : B = partsOk r (cutG [] L) := by rw [hB]; unfold pwOk; rw [if_neg hno]
  obtain ⟨P, hP⟩ : ∃ P, P = cutG [] L := ⟨_, rfl⟩
  rw [← hP] at hA9 hB9
  obtain ⟨n, hn⟩ : ∃ n, n = P.length := ⟨_, rfl⟩
  obtain ⟨Z, hZ⟩ : ∃ Z, Z = P.map (parL r) := ⟨_, rfl⟩
  have hZn : Z.length = n := by rw [hZ, List.length_map, hn]
  have hlp : lenP P ≤ s.size := by rw [hP]; have := lenP_cut L []; simp at this; omega
  have hZs : totL Z ≤ 1000000000 := by rw [hZ]; have := totL_par r P; omega
  have hn0 : 0 < n := by
    rw [hn]
    exact List.length_pos_iff.2 (by rw [hP]; exact cutG_ne L [])
  have hnl : n ≤ s.size + 1 := by rw [hn, hP]; have := cutG_length L []; omega
  have hpl : ∀ j, j < n → (toB (P.getD j [])).size ≤ 1048576 := fun j hj => by
    have h1 := lenP_get P j (by omega)
    have h2 : (toB (P.getD j [])).size = (P.getD j []).length := by simp [toB, ByteArray.size]
    omega
  have hZk : ∀ j, j < n → Z.getD j [] = parL r (P.getD j []) := fun j hj => by
    rw [hZ, List.getD_eq_getElem?_getD, List.getElem?_map, List.getElem?_eq_getElem (by omega), List.getD_eq_getElem?_getD, List.getElem?_eq_getElem (by omega)]
    rfl
  have hbad : ∀ j, j < n → parOk r (P.getD j []) = false → B = false ∧ A = [] := fun j hj hb => by
    have := partsOk_bad (r := r) (P := P) (by omega) hb
    rw [hB9, hA9, this]
    exact ⟨rfl, rfl⟩
  have hend : (∀ j, j < n → parOk r (P.getD j []) = true) → B = arew r Z ∧ A = if arew r Z = true then Z else [] := fun h => by
    rw [hB9, hA9, partsOk_end (fun i hi => h i (by omega)), ← hZ]
    exact ⟨rfl, rfl⟩
  have hz : (s.toList == [110, 111, 110, 101]) = decide (L = noneT) := by rw [Bool.eq_iff_iff, beq_iff_eq, decide_eq_true_eq, ByteArray.toList_eq, ← hL]
  have hin := in_any w1 r 1 3
  have hin2 : L = noneT → Calls Tryd.prog 9 #[.int .i64 r, .int .i64 1, .int .i64 3] w1 fun e w' => e = .returned (.bool false) ∧ w1 = w' := fun h => by
    rwa [decide_eq_false (fun h2 => hno ⟨h, h2⟩)] at hin
  clear hin
  have hcut := l4Cut_any s w1 hs
  rw [← hL, ← hP] at hcut
  have hgr0 : GrowSS w1 w.heap.size (.slice (some ⟨w.heap.size, 0, none⟩) 0 0) 0 Z := ⟨[], rfl, by rw [hw1]; exact OwnsW.lit w, fun i hi => by simp at hi, List.Pairwise.nil⟩
  replace hL := hidI hL
  replace hA := hidI hA
  replace hB := hidI hB
  replace hA9 := hidI hA9
  replace hB9 := hidI hB9
  replace hP := hidI hP
  replace hn := hidI hn
  replace hZ := hidI hZ
  replace hZn := hidI hZn
  replace hlp := hidI hlp
  replace hZs := hidI hZs
  replace hpl := hidI hpl
  replace hZk := hidI hZk
  replace hbad := hidI hbad
  replace hend := hidI hend
  replace hlen := hidI hlen
  replace hno := hidI hno
  replace hgr0 := hidI hgr0
  go_enter Tryd.func4, Tryd.ntmps4
  go_upto_region 2 with fail
  rw [← hw1]
  replace hw1 := hidI hw1
  by_cases hcase : L = noneT
  · have hin3 := hin2 hcase
    rw [decide_eq_true hcase] at hz
    clear hin2
    replace hcase := hidI hcase
    go_wp2_with fail
    refine hin3.mono ?_
    rintro e wq ⟨rfl, rfl⟩
    clear hin3
    go_wp2_with fail
    refine hcut.mono ?_
    rintro e w2 ⟨v7, rfl, hown7, hb2'⟩
    clear hcut
    have hs2 := hb2'.size
    have hb2 : Below w.heap.size w w2 := hb1.trans (hb2'.mono hb1.size)
    obtain ⟨bp, cp, rfl, hcp, hbp, hbp2, hcell7⟩ := hown7.some (by
      intro e
      have := congrArg List.length e
      rw [List.length_map, ← hn.out] at this
      simp at this
      omega)
    rw [List.length_map, ← hn.out] at hcp ⊢
    have hpart : ∀ j, j < n → ∀ wx : World, wx.heap[bp]? = w2.heap[bp]? → wx.cell? ⟨bp, j, none⟩ = some (.string (toB (P.getD j []))) := fun j hj wx hbx => by
      rw [World.cell?_of_block (w := w2) (a := ⟨bp, j, none⟩) hbx]
      have := hcell7 j (toB (P.getD j [])) (by
        rw [List.getElem?_map, List.getElem?_eq_getElem (by have := hn.out; omega), List.getD_eq_getElem?_getD, List.getElem?_eq_getElem (by have := hn.out; omega)]; rfl)
      rwa [Nat.zero_add] at this
    have hgr1 : Hid (GrowSS w2 w.heap.size (.slice (some ⟨w.heap.size, 0, none⟩) 0 0) 0 Z) := hidI (hgr0.out.below hb2')
    have hv0 : Hid ((Value.slice (some ⟨w.heap.size, 0, none⟩) 0 0).ownBlock ≠ some bp) := hidI (by simp [Value.ownBlock]; omega)
    replace hpart := hidI hpart
    replace hown7 := hidI hown7
    replace hcell7 := hidI hcell7
    clear hb2' hgr0
    have hb0 : Hid (Below w.heap.size w w2) := hidI hb2
    go_wp2
    go_loopg [6, 8, 9, 10] n (fun gg v i x1 x2 wr => ∃ k : Nat, k + gg = n ∧ i = .int .i64 k ∧ Hid (GrowSS wr w.heap.size v k Z) ∧ Hid (v.ownBlock ≠ some bp) ∧ Hid (∀ j, j < k → parOk r (P.getD j []) = true) ∧ Hid (Below w.heap.size w wr) ∧ Hid (wr.heap[bp]? = w2.heap[bp]?) ∧ w2.heap.size ≤ wr.heap.size)
    case atStart => exact ⟨0, by omega, rfl, hgr1, hv0, hidI (fun j h => by omega), hb0, hidI rfl, Nat.le_refl _⟩
    case round =>
      clear hgr1 hv0 hb0
      obtain ⟨k, hk, rfl, hgr, hvb, hall, hb, hbk, hsw⟩ := hrel
      obtain ⟨av, cv, rfl⟩ := hgr.out.form
      by_cases hlt : k < n
      · have hki : (k : Int) < (n : Int) := by omega
        have hc := hpart.out k hlt wr hbk.out
        have hcall := specPar wr r (toB (P.getD k [])) (hpl.out k hlt)
        rw [toB_list] at hcall
        have hZk9 := hZk.out k hlt
        obtain ⟨T, hT⟩ : ∃ T, T = toB (P.getD k []) := ⟨_, rfl⟩
        rw [← hT] at hc hcall
        obtain ⟨X, hX⟩ : ∃ X, X = parL r (P.getD k []) := ⟨_, rfl⟩
        rw [← hX] at hcall hZk9
        by_cases hok : parOk r (P.getD k []) = true
        · rw [hok] at hcall
          have hnx : Hid (∀ j, j < k + 1 → parOk r (P.getD j []) = true) := hidI fun j hj => by
            by_cases e : j = k
            · subst e; exact hok
            · exact hall.out j (by omega)
          replace hok := hidI hok
          replace hT := hidI hT
          replace hX := hidI hX
          replace hZk9 := hidI hZk9
          replace hk := hidI hk
          go_wp2_with fail
          refine hcall.mono ?_
          rintro e w6 ⟨u6, rfl, hrow6, hb6⟩
          clear hcall
          obtain ⟨a6, m6, c6, rfl⟩ := rowI_form hrow6
          obtain ⟨us, hul, hown, hcl⟩ := hgr.out
          have hown6 : OwnsW w6 w.heap.size (.slice av k cv) us := hown.other (fun q hq => hb6.block q (World.ownsRow.lt hown q hq).2)
          have hbs : w.heap.size ≤ w6.heap.size := by have := hb.out.size; have := hb6.size; omega
          have hul' : us.length ≤ 1000000000 := by omega
          replace hown6 := hidI hown6
          replace hcl := hidI hcl
          replace hown := hidI hown
          replace hul := hidI hul
          go_wp2_with (at_builtin; go_must (refine wpList_pushW_at rfl _ _ rfl w.heap.size (.slice av k cv) us a6 m6 c6 rfl rfl hown6.out hul' hbs ?_))
          intro v9 w9 hown9 hg9 hat9
          have hgr9 := hidI (GrowSS.more hul.out hown.out hcl.out hb6 hb.out.size (by rw [hZk9.out]; exact hrow6) hown9 hg9 hat9)
          have hvb9 : Hid (v9.ownBlock ≠ some bp) := hidI (by
            rcases hat9 with e | e
            · rw [e]; exact hvb.out
            · rw [e]; have := hb6.size; simp; omega)
          have hbw6 := hb.out.trans (hb6.mono hb.out.size)
          have hb9 : Hid (Below w.heap.size w w9) := hidI ((hbw6.alloc hbw6.size _).grown hg9 (by simp; omega) (fun q hq => (World.ownsRow.lt hown.out q hq).1))
          have hbk9 : Hid (w9.heap[bp]? = w2.heap[bp]?) := hidI (by
            rw [hg9.block bp (by have := hb6.size; simp; omega) (fun e => hvb.out e.symm), heap_alloc_old _ _ (by have := hb6.size; omega), hb6.block bp (by omega)]
            exact hbk.out)
          have hs9 : w2.heap.size ≤ w9.heap.size := by have h7 := hb6.size; have h8 := hg9.size; simp at h8; omega
          clear hown9 hg9 hat9 hrow6 hb6 hbw6 hgr hvb hb hbk hall hc
          go_wp2
          go_roundg (n - (k + 1))
          case rel => exact ⟨k + 1, by have := hk.out; omega, by go_num, hgr9, hvb9, hnx, hb9, hbk9, hs9⟩
          case measure => have := hk.out; omega
        · have hok' : parOk r (P.getD k []) = false := by simpa using hok
          rw [hok'] at hcall
          obtain ⟨eB, eA⟩ := hbad.out k hlt hok'
          subst eB
          subst eA
          replace hok := hidI hok
          replace hok' := hidI hok'
          replace hT := hidI hT
          replace hX := hidI hX
          replace hZk9 := hidI hZk9
          replace hk := hidI hk
          go_wp2_with fail
          refine hcall.mono ?_
          rintro e w6 ⟨u6, rfl, hrow6, hb6⟩
          clear hcall hc
          obtain ⟨a6, m6, c6, rfl⟩ := rowI_form hrow6
          have hbw6 := hb.out.trans (hb6.mono hb.out.size)
          have hfin := hidI (rowSS_lit w w6 w6.heap.size rfl hbw6.size false hbw6)
          replace hrow6 := hidI hrow6
          replace hb6 := hidI hb6
          go_wp2
          go_ret2
          exact hfin.out
      · obtain rfl : k = n := by omega
        have hki : ¬ (k : Int) < (k : Int) := by omega
        obtain ⟨eB, eA⟩ := hend.out (fun j hj => hall.out j hj)
        have hZn9 := hZn.out
        obtain ⟨us, hrows⟩ := (show GrowSS wr w.heap.size (.slice av k cv) Z.length Z by rw [hZn9]; exact hgr.out).rows (by omega)
        have hare := specAreW wr wr.heap.size (.slice av k cv) Z r hrows.read hZs.out
        obtain ⟨b, hbv⟩ : ∃ b, b = arew r Z := ⟨_, rfl⟩
        rw [← hbv] at hare eB eA
        replace hbv := hidI hbv
        replace hrows := hidI hrows
        replace hk := hidI hk
        subst eB
        replace eA := hidI eA
        go_wp2_with fail
        refine hare.mono ?_
        rintro e w6 ⟨rfl, m6, hw6⟩
        have hb6 : Below wr.heap.size wr w6 := by rw [hw6]; exact below_dn (Below.refl _ _) _
        replace hw6 := hidI hw6
        clear hare
        have hbw6 := hb.out.trans (hb6.mono hb.out.size)
        cases B with
        | true =>
          have eA' : A = Z := by have := eA.out; simpa using this
          subst eA'
          have hfin : LwWordsBool w A true (.returned (.tuple #[.slice av k cv, .bool true])) w6 := ⟨_, us, rfl, (RowSS.below hrows.out hb6 (Nat.le_refl _)).wide (Nat.le_refl _) hb6.size, hbw6⟩
          replace hfin := hidI hfin
          replace hb6 := hidI hb6
          go_wp2
          go_ret2
          exact hfin.out
        | false =>
          have eA' : A = [] := by have := eA.out; simpa using this
          subst eA'
          have hfin := hidI (rowSS_lit w w6 w6.heap.size rfl hbw6.size false hbw6)
          replace hb6 := hidI hb6
          go_wp2
          go_ret2
          exact hfin.out
  · rw [decide_eq_false hcase] at hz
    clear hin2
    replace hcase := hidI hcase
    go_wp2_with fail
    refine hcut.mono ?_
    rintro e w2 ⟨v7, rfl, hown7, hb2'⟩
    clear hcut
    have hs2 := hb2'.size
    have hb2 : Below w.heap.size w w2 := hb1.trans (hb2'.mono hb1.size)
    obtain ⟨bp, cp, rfl, hcp, hbp, hbp2, hcell7⟩ := hown7.some (by
      intro e
      have := congrArg List.length e
      rw [List.length_map, ← hn.out] at this
      simp at this
      omega)
    rw [List.length_map, ← hn.out] at hcp ⊢
    have hpart : ∀ j, j < n → ∀ wx : World, wx.heap[bp]? = w2.heap[bp]? → wx.cell? ⟨bp, j, none⟩ = some (.string (toB (P.getD j []))) := fun j hj wx hbx => by
      rw [World.cell?_of_block (w := w2) (a := ⟨bp, j, none⟩) hbx]
      have := hcell7 j (toB (P.getD j [])) (by
        rw [List.getElem?_map, List.getElem?_eq_getElem (by have := hn.out; omega), List.getD_eq_getElem?_getD, List.getElem?_eq_getElem (by have := hn.out; omega)]; rfl)
      rwa [Nat.zero_add] at this
    have hgr1 : Hid (GrowSS w2 w.heap.size (.slice (some ⟨w.heap.size, 0, none⟩) 0 0) 0 Z) := hidI (hgr0.out.below hb2')
    have hv0 : Hid ((Value.slice (some ⟨w.heap.size, 0, none⟩) 0 0).ownBlock ≠ some bp) := hidI (by simp [Value.ownBlock]; omega)
    replace hpart := hidI hpart
    replace hown7 := hidI hown7
    replace hcell7 := hidI hcell7
    clear hb2' hgr0
    have hb0 : Hid (Below w.heap.size w w2) := hidI hb2
    go_wp2
    go_loopg [6, 8, 9, 10] n (fun gg v i x1 x2 wr => ∃ k : Nat, k + gg = n ∧ i = .int .i64 k ∧ Hid (GrowSS wr w.heap.size v k Z) ∧ Hid (v.ownBlock ≠ some bp) ∧ Hid (∀ j, j < k → parOk r (P.getD j []) = true) ∧ Hid (Below w.heap.size w wr) ∧ Hid (wr.heap[bp]? = w2.heap[bp]?) ∧ w2.heap.size ≤ wr.heap.size)
    case atStart => exact ⟨0, by omega, rfl, hgr1, hv0, hidI (fun j h => by omega), hb0, hidI rfl, Nat.le_refl _⟩
    case round =>
      clear hgr1 hv0 hb0
      obtain ⟨k, hk, rfl, hgr, hvb, hall, hb, hbk, hsw⟩ := hrel
      obtain ⟨av, cv, rfl⟩ := hgr.out.form
      by_cases hlt : k < n
      · have hki : (k : Int) < (n : Int) := by omega
        have hc := hpart.out k hlt wr hbk.out
        have hcall := specPar wr r (toB (P.getD k [])) (hpl.out k hlt)
        rw [toB_list] at hcall
        have hZk9 := hZk.out k hlt
        obtain ⟨T, hT⟩ : ∃ T, T = toB (P.getD k []) := ⟨_, rfl⟩
        rw [← hT] at hc hcall
        obtain ⟨X, hX⟩ : ∃ X, X = parL r (P.getD k []) := ⟨_, rfl⟩
        rw [← hX] at hcall hZk9
        by_cases hok : parOk r (P.getD k []) = true
        · rw [hok] at hcall
          have hnx : Hid (∀ j, j < k + 1 → parOk r (P.getD j []) = true) := hidI fun j hj => by
            by_cases e : j = k
            · subst e; exact hok
            · exact hall.out j (by omega)
          replace hok := hidI hok
          replace hT := hidI hT
          replace hX := hidI hX
          replace hZk9 := hidI hZk9
          replace hk := hidI hk
          go_wp2_with fail
          refine hcall.mono ?_
          rintro e w6 ⟨u6, rfl, hrow6, hb6⟩
          clear hcall
          obtain ⟨a6, m6, c6, rfl⟩ := rowI_form hrow6
          obtain ⟨us, hul, hown, hcl⟩ := hgr.out
          have hown6 : OwnsW w6 w.heap.size (.slice av k cv) us := hown.other (fun q hq => hb6.block q (World.ownsRow.lt hown q hq).2)
          have hbs : w.heap.size ≤ w6.heap.size := by have := hb.out.size; have := hb6.size; omega
          have hul' : us.length ≤ 1000000000 := by omega
          replace hown6 := hidI hown6
          replace hcl := hidI hcl
          replace hown := hidI hown
          replace hul := hidI hul
          go_wp2_with (at_builtin; go_must (refine wpList_pushW_at rfl _ _ rfl w.heap.size (.slice av k cv) us a6 m6 c6 rfl rfl hown6.out hul' hbs ?_))
          intro v9 w9 hown9 hg9 hat9
          have hgr9 := hidI (GrowSS.more hul.out hown.out hcl.out hb6 hb.out.size (by rw [hZk9.out]; exact hrow6) hown9 hg9 hat9)
          have hvb9 : Hid (v9.ownBlock ≠ some bp) := hidI (by
            rcases hat9 with e | e
            · rw [e]; exact hvb.out
            · rw [e]; have := hb6.size; simp; omega)
          have hbw6 := hb.out.trans (hb6.mono hb.out.size)
          have hb9 : Hid (Below w.heap.size w w9) := hidI ((hbw6.alloc hbw6.size _).grown hg9 (by simp; omega) (fun q hq => (World.ownsRow.lt hown.out q hq).1))
          have hbk9 : Hid (w9.heap[bp]? = w2.heap[bp]?) := hidI (by
            rw [hg9.block bp (by have := hb6.size; simp; omega) (fun e => hvb.out e.symm), heap_alloc_old _ _ (by have := hb6.size; omega), hb6.block bp (by omega)]
            exact hbk.out)
          have hs9 : w2.heap.size ≤ w9.heap.size := by have h7 := hb6.size; have h8 := hg9.size; simp at h8; omega
          clear hown9 hg9 hat9 hrow6 hb6 hbw6 hgr hvb hb hbk hall hc
          go_wp2
          go_roundg (n - (k + 1))
          case rel => exact ⟨k + 1, by have := hk.out; omega, by go_num, hgr9, hvb9, hnx, hb9, hbk9, hs9⟩
          case measure => have := hk.out; omega
        · have hok' : parOk r (P.getD k []) = false := by simpa using hok
          rw [hok'] at hcall
          obtain ⟨eB, eA⟩ := hbad.out k hlt hok'
          subst eB
          subst eA
          replace hok := hidI hok
          replace hok' := hidI hok'
          replace hT := hidI hT
          replace hX := hidI hX
          replace hZk9 := hidI hZk9
          replace hk := hidI hk
          go_wp2_with fail
          refine hcall.mono ?_
          rintro e w6 ⟨u6, rfl, hrow6, hb6⟩
          clear hcall hc
          obtain ⟨a6, m6, c6, rfl⟩ := rowI_form hrow6
          have hbw6 := hb.out.trans (hb6.mono hb.out.size)
          have hfin := hidI (rowSS_lit w w6 w6.heap.size rfl hbw6.size false hbw6)
          replace hrow6 := hidI hrow6
          replace hb6 := hidI hb6
          go_wp2
          go_ret2
          exact hfin.out
      · obtain rfl : k = n := by omega
        have hki : ¬ (k : Int) < (k : Int) := by omega
        obtain ⟨eB, eA⟩ := hend.out (fun j hj => hall.out j hj)
        have hZn9 := hZn.out
        obtain ⟨us, hrows⟩ := (show GrowSS wr w.heap.size (.slice av k cv) Z.length Z by rw [hZn9]; exact hgr.out).rows (by omega)
        have hare := specAreW wr wr.heap.size (.slice av k cv) Z r hrows.read hZs.out
        obtain ⟨b, hbv⟩ : ∃ b, b = arew r Z := ⟨_, rfl⟩
        rw [← hbv] at hare eB eA
        replace hbv := hidI hbv
        replace hrows := hidI hrows
        replace hk := hidI hk
        subst eB
        replace eA := hidI eA
        go_wp2_with fail
        refine hare.mono ?_
        rintro e w6 ⟨rfl, m6, hw6⟩
        have hb6 : Below wr.heap.size wr w6 := by rw [hw6]; exact below_dn (Below.refl _ _) _
        replace hw6 := hidI hw6
        clear hare
        have hbw6 := hb.out.trans (hb6.mono hb.out.size)
        cases B with
        | true =>
          have eA' : A = Z := by have := eA.out; simpa using this
          subst eA'
          have hfin : LwWordsBool w A true (.returned (.tuple #[.slice av k cv, .bool true])) w6 := ⟨_, us, rfl, (RowSS.below hrows.out hb6 (Nat.le_refl _)).wide (Nat.le_refl _) hb6.size, hbw6⟩
          replace hfin := hidI hfin
          replace hb6 := hidI hb6
          go_wp2
          go_ret2
          exact hfin.out
        | false =>
          have eA' : A = [] := by have := eA.out; simpa using this
          subst eA'
          have hfin := hidI (rowSS_lit w w6 w6.heap.size rfl hbw6.size false hbw6)
          replace hb6 := hidI hb6
          go_wp2
          go_ret2
          exact hfin.out
end Go.Proofs.YtmafaglgegimfaaDoor
