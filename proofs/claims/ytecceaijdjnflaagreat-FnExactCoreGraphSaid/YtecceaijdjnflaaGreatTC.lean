/- Cores, the model: RenumberGraph (tools/tc.py). -/
import Derived.Test.YtecceaijdjnflaaGreatTA
import Derived.Test.YtecceaijdjnflaaGreatQC
import Derived.Test.YtecceaijdjnflaaGreatMS
import Derived.Deep.LoopGhost
import Derived.Deep.Cut
import Derived.Deep.RegionHeld3
namespace Go.Proofs.YtecceaijdjnflaaGreat
open Go.RowKit
set_option linter.unusedVariables false
set_option linter.unusedSimpArgs false

theorem ownsRow_keep {w w' : World} {base P cap n : Nat} {T : TypeId} {xs : List Value} {sz : Nat} (h : w.ownsRow base T sz (.slice (some ⟨P, 0, none⟩) n cap) n xs) (hk : w'.heap[P]? = w.heap[P]?) : w'.ownsRow base T sz (.slice (some ⟨P, 0, none⟩) n cap) n xs := by
  obtain ⟨q1, q2 | ⟨g, cap', cur, e, hg, hh, hr⟩⟩ := h
  · exact ⟨q1, .inl q2⟩
  · cases e
    exact ⟨q1, .inr ⟨_, _, cur, rfl, hg, hk.trans hh, hr⟩⟩
theorem plN_succ (s : Nat) (zs : List Int) (k : Nat) : plN s zs (k + 1) = (plN s zs k).set (zs.getD k 0).toNat ((k : Int) + 1) := rfl
theorem plN_cell {w : World} {base P sN k zN : Nat} {zs : List Int} (h : w.ownsRow base 3 1 (.slice (some ⟨P, 0, none⟩) sN sN) sN ((plN sN zs k).map iv)) (hz : zN < sN) : w.cell? ⟨P, zN, none⟩ = some (.int .i64 ((plN sN zs k).getD zN 0)) := by
  have hl := plN_length sN zs k
  rw [h.cellAt zN (by omega), List.getElem?_map, List.getD_eq_getElem?_getD, List.getElem?_eq_getElem (by omega)]
  rfl
theorem place_of {r s : Int} {es : List Ed} (h : isGr r s es = true) {j : Nat} (hj : j < es.length) : (0 ≤ (es.getD j e0).1 ∧ (es.getD j e0).1 < s) ∧ (0 ≤ (es.getD j e0).2.2 ∧ (es.getD j e0).2.2 < s) := by
  have hE := endsIn_of h (es.getD j e0) (by rw [List.getD_eq_getElem?_getD, List.getElem?_eq_getElem hj]; exact List.getElem_mem hj)
  have := isGr_iff.1 h
  omega

set_option maxRecDepth 100000 in
set_option maxHeartbeats 6400000 in
theorem specRenum (w : World) (r s : Int) (v vo : Value) (es : List Ed) (zs : List Int) (h : ReadE w.heap.size w v es) (hs : -9223372036854775808 ≤ s ∧ s ≤ 9223372036854775807) (hl : es.length ≤ 10000000) (ho : ReadI w.heap.size w vo zs) (hlo : zs.length ≤ 10000000) :
    Calls Tryz.prog 26 #[.agg #[.int .i64 r, .int .i64 s, v], vo] w (LwGraphBool w r (rnS r s es zs) (rnE r s es zs) (okN r s es zs)) := by
  obtain ⟨a, cap, rfl, hnc⟩ := h.form
  have ho' := ho
  obtain ⟨hol, oa, oc, rfl, _, _⟩ := ho'
  obtain ⟨n, hn⟩ : ∃ n, n = es.length := ⟨_, rfl⟩
  obtain ⟨m, hm⟩ : ∃ m, m = zs.length := ⟨_, rfl⟩
  rw [← hn] at h
  rw [← hn] at hl hnc ⊢
  rw [← hm] at hlo ho hol ⊢
  obtain ⟨w1, hw1⟩ : ∃ z, z = ((w.alloc (.cells #[.int .i64 r, .int .i64 s, .slice a n cap] 28)).alloc (.cells #[.int .i64 0, .int .i64 0, .slice none 0 0] 28)).alloc (.cells #[.int .i64 r, .int .i64 m, .slice none 0 0] 28) := ⟨_, rfl⟩
  have hb1 : Below w.heap.size w w1 := by rw [hw1]; exact (((Below.refl _ _).alloc (Nat.le_refl _) _).alloc (by simp) _).alloc (by simp; omega) _
  have hs1 : w1.heap.size = w.heap.size + 1 + 1 + 1 := by rw [hw1]; simp
  have hX0 : w1.heap[w.heap.size + 1 + 1]? = some (.cells #[.int .i64 r, .int .i64 m, .slice none 0 0] 28 (0, 0)) := by
    have := heap_alloc_new ((w.alloc (.cells #[.int .i64 r, .int .i64 s, .slice a n cap] 28)).alloc (.cells #[.int .i64 0, .int .i64 0, .slice none 0 0] 28)) (.cells #[.int .i64 r, .int .i64 m, .slice none 0 0] 28)
    rw [← hw1] at this; simpa using this
  have hR : w1.heap[w.heap.size + 1]? = some (.cells #[.int .i64 0, .int .i64 0, .slice none 0 0] 28 (0, 0)) := by
    have := heap_box (w.alloc (.cells #[.int .i64 r, .int .i64 s, .slice a n cap] 28)) (.cells #[.int .i64 0, .int .i64 0, .slice none 0 0] 28) (.cells #[.int .i64 r, .int .i64 m, .slice none 0 0] 28)
    rw [← hw1] at this; simpa using this
  have hg : w1.heap[w.heap.size]? = some (.cells #[.int .i64 r, .int .i64 s, .slice a n cap] 28 (0, 0)) := by
    rw [hw1, ((Below.refl w.heap.size.succ (((w.alloc (.cells #[.int .i64 r, .int .i64 s, .slice a n cap] 28))).alloc (.cells #[.int .i64 0, .int .i64 0, .slice none 0 0] 28))).alloc (by simp) (.cells #[.int .i64 r, .int .i64 m, .slice none 0 0] 28)).block w.heap.size (by omega)]
    exact heap_box w (.cells #[.int .i64 r, .int .i64 s, .slice a n cap] 28) (.cells #[.int .i64 0, .int .i64 0, .slice none 0 0] 28)
  have g0 : w1.cell? ⟨w.heap.size, 0, none⟩ = some (.int .i64 r) := by simpa using cell_of_heap hg 0
  have g1 : w1.cell? ⟨w.heap.size, 1, none⟩ = some (.int .i64 s) := by simpa using cell_of_heap hg 1
  have g2 : w1.cell? ⟨w.heap.size, 2, none⟩ = some (.slice a n cap) := by simpa using cell_of_heap hg 2
  have hww := hw1.symm
  have his := specIsGr w1 r s (.slice a n cap) es ((h.below hb1).mono hb1.size) hs (by omega)
  obtain ⟨B, hB⟩ : ∃ B, B = isGr r s es := ⟨_, rfl⟩
  rw [← hB] at his
  obtain ⟨O, hO⟩ : ∃ B, B = okN r s es zs := ⟨_, rfl⟩
  obtain ⟨ZS, hZS⟩ : ∃ B, B = rnS r s es zs := ⟨_, rfl⟩
  obtain ⟨ZE, hZE⟩ : ∃ B, B = rnE r s es zs := ⟨_, rfl⟩
  rw [← hO, ← hZS, ← hZE]
  have hOe : O = (B && decide (m ≠ 0 ∧ (m : Int) ≤ s) && plAll s.toNat zs m) := by rw [hO, hB, hm]; rfl
  have hno : O = false → ZS = s ∧ ZE = es := fun hf => by rw [hZS, hZE]; unfold rnS rnE; rw [← hO, hf]; exact ⟨rfl, rfl⟩
  have hyes : O = true → ZS = (m : Int) ∧ ZE = rnN (plN s.toNat zs m) es n := fun hf => by rw [hZS, hZE]; unfold rnS rnE; rw [← hO, hf, hn, hm]; exact ⟨rfl, rfl⟩
  have hRk : ∀ W, Below w1.heap.size w1 W → W.heap[w.heap.size + 1]? = some (.cells #[.int .i64 0, .int .i64 0, .slice none 0 0] 28 (0, 0)) := fun W hW => by rw [hW.block _ (by omega)]; exact hR
  have hXk : ∀ W, Below w1.heap.size w1 W → W.heap[w.heap.size + 1 + 1]? = some (.cells #[.int .i64 r, .int .i64 m, .slice none 0 0] 28 (0, 0)) := fun W hW => by rw [hW.block _ (by omega)]; exact hX0
  have hend : ∀ (W : World) (x0 x1 x2 : Value), Below w.heap.size w W → Below w.heap.size w (((W.setCell ⟨w.heap.size + 1, 0, none⟩ x0).setCell ⟨w.heap.size + 1, 1, none⟩ x1).setCell ⟨w.heap.size + 1, 2, none⟩ x2) := fun W x0 x1 x2 hW => below_set3 hW (by omega)
  have hcopy := fun (W : World) (hr : ReadE W.heap.size W (.slice a es.length cap) es) => specCopy W r s _ es hr (by omega)
  rw [← hn] at hcopy
  replace hcopy := hidI hcopy
  replace hOe := hidI hOe
  replace hno := hidI hno
  replace hyes := hidI hyes
  replace hRk := hidI hRk
  replace hXk := hidI hXk
  replace hend := hidI hend
  replace hww := hidI hww
  replace hn := hidI hn
  replace hm := hidI hm
  replace h := hidI h
  replace ho := hidI ho
  replace hg := hidI hg
  replace hX0 := hidI hX0
  replace hR := hidI hR
  replace hs1 := hidI hs1
  replace hO := hidI hO
  replace hZS := hidI hZS
  replace hZE := hidI hZE
  replace hw1 := hidI hw1
  go_enter Tryz.func26, Tryz.ntmps26
  go_upto_region 2 with fail
  rw [hww.out]
  go_wp2_with fail
  refine his.mono ?_
  rintro e w2 ⟨rfl, hb2⟩
  clear his
  have hlt1 : w.heap.size + 1 + 1 < w1.heap.size := by have := hs1.out; omega
  replace g0 := below_cell g0 hb2 (by omega)
  replace g1 := below_cell g1 hb2 (by omega)
  replace g2 := below_cell g2 hb2 (by omega)
  have hb12 := hidI (hb1.trans (hb2.mono hb1.size))
  have hb12' := hidI hb2
  have hsz2 := hb2.size
  clear hb2
  cases B with
  | false =>
    have hOf : O = false := hOe.out
    replace hB := hidI hB
    replace hOf := hidI hOf
    obtain ⟨hZS0, hZE0⟩ := hno.out hOf.out
    have hcc := hcopy.out w2 ((h.out.below hb12.out).mono hb12.out.size)
    replace hZS0 := hidI hZS0
    replace hZE0 := hidI hZE0
    go_wp2_with fail
    refine hcc.mono ?_
    rintro e w5 ⟨ca, cc, rfl, hrow, hb5⟩
    rw [← hn.out]
    rw [← hn.out] at hrow
    clear hcc
    have hb15 : Below w.heap.size w w5 := hb12.out.trans (hb5.mono hb12.out.size)
    have hR5 := hRk.out w5 (hb12'.out.trans (hb5.mono hb12'.out.size))
    have y0 := cell_of_heap hR5 0
    have y1 := cell_of_heap hR5 1
    have y2 := cell_of_heap hR5 2
    have f2 := fun j => frozen_of_row w5 (w.heap.size + 1) j _ _ hR5
    simp at y0 y1 y2
    have hfin : LwGraphBool w r s es false (.returned (.tuple #[.agg #[.int .i64 r, .int .i64 s, .slice ca n cc], .bool false])) (((w5.setCell ⟨w.heap.size + 1, 0, none⟩ (.int .i64 r)).setCell ⟨w.heap.size + 1, 1, none⟩ (.int .i64 s)).setCell ⟨w.heap.size + 1, 2, none⟩ (.slice ca n cc)) := by
      have hrw := hrow
      rw [hn.out] at hrw
      rw [hn.out]
      have hRl : w.heap.size + 1 < w2.heap.size := by have := hs1.out; have := hb12'.out.size; omega
      exact ⟨ca, cc, rfl, (RowS.set3_ hrw (.inl hRl)).wide hb12.out.size (by rw [size_set3]; exact Nat.le_refl _), hend.out _ _ _ _ hb15⟩
    have hset := set3 hR5 (.int .i64 r) (.int .i64 s) (.slice ca n cc)
    replace hfin := hidI hfin
    replace hset := hidI hset
    replace hR5 := hidI hR5
    replace hrow := hidI hrow
    replace hb5 := hidI hb5
    replace hb15 := hidI hb15
    clear g0 g1 g2
    go_wp2
    (try simp only [Exit.inBlock, Exit.then])
    refine ret_cell2 (x := .bool false) rfl rfl rfl hset.out Tryz.underlying28 sizeGraph ?_
    rw [hOf.out, hZS0.out, hZE0.out]
    exact hfin.out
  | true =>
    have hgr := hidI hB.symm
    replace hB := hidI hB
    by_cases hm0 : m = 0
    case pos =>
      have hOf : O = false := by rw [hOe.out, hm0]; rfl
      have hmz : ((m : Int) == 0) = true := by rw [beq_iff_eq]; omega
      replace hm0 := hidI hm0
      replace hOf := hidI hOf
      obtain ⟨hZS0, hZE0⟩ := hno.out hOf.out
      have hcc := hcopy.out w2 ((h.out.below hb12.out).mono hb12.out.size)
      replace hZS0 := hidI hZS0
      replace hZE0 := hidI hZE0
      go_wp2_with fail
      refine hcc.mono ?_
      rintro e w5 ⟨ca, cc, rfl, hrow, hb5⟩
      rw [← hn.out]
      rw [← hn.out] at hrow
      clear hcc
      have hb15 : Below w.heap.size w w5 := hb12.out.trans (hb5.mono hb12.out.size)
      have hR5 := hRk.out w5 (hb12'.out.trans (hb5.mono hb12'.out.size))
      have y0 := cell_of_heap hR5 0
      have y1 := cell_of_heap hR5 1
      have y2 := cell_of_heap hR5 2
      have f2 := fun j => frozen_of_row w5 (w.heap.size + 1) j _ _ hR5
      simp at y0 y1 y2
      have hfin : LwGraphBool w r s es false (.returned (.tuple #[.agg #[.int .i64 r, .int .i64 s, .slice ca n cc], .bool false])) (((w5.setCell ⟨w.heap.size + 1, 0, none⟩ (.int .i64 r)).setCell ⟨w.heap.size + 1, 1, none⟩ (.int .i64 s)).setCell ⟨w.heap.size + 1, 2, none⟩ (.slice ca n cc)) := by
        have hrw := hrow
        rw [hn.out] at hrw
        rw [hn.out]
        have hRl : w.heap.size + 1 < w2.heap.size := by have := hs1.out; have := hb12'.out.size; omega
        exact ⟨ca, cc, rfl, (RowS.set3_ hrw (.inl hRl)).wide hb12.out.size (by rw [size_set3]; exact Nat.le_refl _), hend.out _ _ _ _ hb15⟩
      have hset := set3 hR5 (.int .i64 r) (.int .i64 s) (.slice ca n cc)
      replace hfin := hidI hfin
      replace hset := hidI hset
      replace hR5 := hidI hR5
      replace hrow := hidI hrow
      replace hb5 := hidI hb5
      replace hb15 := hidI hb15
      clear g0 g1 g2
      go_wp2
      (try simp only [Exit.inBlock, Exit.then])
      refine ret_cell2 (x := .bool false) rfl rfl rfl hset.out Tryz.underlying28 sizeGraph ?_
      rw [hOf.out, hZS0.out, hZE0.out]
      exact hfin.out
    have hmz : ((m : Int) == 0) = false := by rw [beq_eq_false_iff_ne]; omega
    by_cases hms : s < (m : Int)
    case pos =>
      have hOf : O = false := by rw [hOe.out, decide_eq_false (show ¬ (m ≠ 0 ∧ (m : Int) ≤ s) by omega)]; rfl
      replace hm0 := hidI hm0
      replace hOf := hidI hOf
      obtain ⟨hZS0, hZE0⟩ := hno.out hOf.out
      have hcc := hcopy.out w2 ((h.out.below hb12.out).mono hb12.out.size)
      replace hZS0 := hidI hZS0
      replace hZE0 := hidI hZE0
      go_wp2_with fail
      refine hcc.mono ?_
      rintro e w5 ⟨ca, cc, rfl, hrow, hb5⟩
      rw [← hn.out]
      rw [← hn.out] at hrow
      clear hcc
      have hb15 : Below w.heap.size w w5 := hb12.out.trans (hb5.mono hb12.out.size)
      have hR5 := hRk.out w5 (hb12'.out.trans (hb5.mono hb12'.out.size))
      have y0 := cell_of_heap hR5 0
      have y1 := cell_of_heap hR5 1
      have y2 := cell_of_heap hR5 2
      have f2 := fun j => frozen_of_row w5 (w.heap.size + 1) j _ _ hR5
      simp at y0 y1 y2
      have hfin : LwGraphBool w r s es false (.returned (.tuple #[.agg #[.int .i64 r, .int .i64 s, .slice ca n cc], .bool false])) (((w5.setCell ⟨w.heap.size + 1, 0, none⟩ (.int .i64 r)).setCell ⟨w.heap.size + 1, 1, none⟩ (.int .i64 s)).setCell ⟨w.heap.size + 1, 2, none⟩ (.slice ca n cc)) := by
        have hrw := hrow
        rw [hn.out] at hrw
        rw [hn.out]
        have hRl : w.heap.size + 1 < w2.heap.size := by have := hs1.out; have := hb12'.out.size; omega
        exact ⟨ca, cc, rfl, (RowS.set3_ hrw (.inl hRl)).wide hb12.out.size (by rw [size_set3]; exact Nat.le_refl _), hend.out _ _ _ _ hb15⟩
      have hset := set3 hR5 (.int .i64 r) (.int .i64 s) (.slice ca n cc)
      replace hfin := hidI hfin
      replace hset := hidI hset
      replace hR5 := hidI hR5
      replace hrow := hidI hrow
      replace hb5 := hidI hb5
      replace hb15 := hidI hb15
      clear g0 g1 g2
      go_wp2
      (try simp only [Exit.inBlock, Exit.then])
      refine ret_cell2 (x := .bool false) rfl rfl rfl hset.out Tryz.underlying28 sizeGraph ?_
      rw [hOf.out, hZS0.out, hZE0.out]
      exact hfin.out
    have hlim := isGr_iff.1 hgr.out
    have hsl : 1 ≤ s ∧ s ≤ 40 ∧ es.length ≤ 120 := ⟨hlim.2.2.2.1, hlim.2.2.2.2.1, hlim.2.2.2.2.2⟩
    have hn120 : n ≤ 120 := by have := hn.out; omega
    have hOp : Hid (O = plAll s.toNat zs m) := hidI (by rw [hOe.out, decide_eq_true (show m ≠ 0 ∧ (m : Int) ≤ s by omega)]; rfl)
    replace hlim := hidI hlim
    replace hm0 := hidI hm0
    obtain ⟨sN, rfl⟩ : ∃ sN : Nat, s = (sN : Int) := ⟨s.toNat, by omega⟩
    rw [Int.toNat_natCast] at hOp hyes
    have hsub : IntKind.i64.wrap ((sN : Int) - 1) = (sN : Int) - 1 := IntWalk.i64_in _ (by omega)
    obtain ⟨i0, hj, hz0, hz1, hz2⟩ := info_parts infoInt
    obtain ⟨P, hP⟩ : ∃ P, P = w2.heap.size := ⟨_, rfl⟩
    have hXP : w.heap.size + 1 + 1 < P := by have := hs1.out; omega
    go_wp2_with (at_make; go_must (refine wpList_make_full _ rfl _ _ 38 rfl w2.heap.size 3 i0 (.int .i64 0) 1 Tryz.underlying38 hj hz0 hz1 .i64 .i64 _ _ sN rfl rfl rfl rfl ?c1 ?c2 ?c3 ?_))
    case c1 => rw [hz2]; omega
    case c2 => unfold maxLen; omega
    case c3 => exact Nat.le_refl _
    intro w3 hown hgw
    rw [made_ints] at hown
    have hb3 : Below w2.heap.size w2 w3 := (Below.refl w2.heap.size w2).grown hgw (Nat.le_refl _) (by intro k hk; cases hk)
    have hlt3 : P < w3.heap.size := by rw [hP]; exact (World.ownsRow.lt hown _ rfl).2
    clear hgw hj hz0 hz1 hz2
    rw [← hP] at hown hb3 ⊢
    have hst0 : Hid (w3.ownsRow P 3 1 (.slice (some ⟨P, 0, none⟩) sN sN) sN ((plN sN zs 0).map iv)) := hidI hown
    replace hb3 := hidI hb3
    replace hP := hidI hP
    clear hown
    go_wp2
    go_loopg [8] m (fun g i wr => ∃ k : Nat, k + g = m ∧ i = .int .i64 k ∧ Hid (wr.ownsRow P 3 1 (.slice (some ⟨P, 0, none⟩) sN sN) sN ((plN sN zs k).map iv)) ∧ Hid (∀ j, j < k → plB sN zs j = true) ∧ Hid (Below P w2 wr) ∧ P < wr.heap.size)
    case atStart => exact ⟨0, by omega, rfl, hst0, hidI (fun j h => by omega), hb3, hlt3⟩
    case round =>
      clear hst0 hb3 hlt3
      obtain ⟨k, hk, rfl, hst, hall, hb, hlw⟩ := hrel
      have hbr := hidI (hb12.out.trans (hb.out.mono (by have := hP.out; have := hb12.out.size; omega)))
      have hbr1 := hidI (hb12'.out.trans (hb.out.mono (by have := hP.out; omega)))
      replace g0 := below_cell g0 hb.out (by omega)
      replace g1 := below_cell g1 hb.out (by omega)
      replace g2 := below_cell g2 hb.out (by omega)
      by_cases hlt : k < m
      · have hki : (k : Int) < (m : Int) := by omega
        obtain ⟨ob, ooff, hab, hBo, co⟩ := (ho.out.below hbr.out).at2 k (by have := hm.out; omega)
        subst hab
        obtain ⟨z, hz⟩ : ∃ z, z = zs.getD k 0 := ⟨_, rfl⟩
        rw [← hz] at co
        have hk1 : k < 40 := by omega
        obtain ⟨wd, hwd⟩ : ∃ z, z = wr.drew := ⟨_, rfl⟩
        have hbd : Below wr.heap.size wr wd := by rw [hwd]; exact below_dn (Below.refl _ _) 1
        have hsw := hb.out.size
        have hsw2 := hP.out
        have hob : ob < wr.heap.size := by have := hbr.out.size; omega
        have x0 := below_cell co hbd hob
        have x1 := below_cell g1 hbd (by omega)
        replace g0 := below_cell g0 hbd (by omega)
        replace g2 := below_cell g2 hbd (by omega)
        have hstd : Hid (wd.ownsRow P 3 1 (.slice (some ⟨P, 0, none⟩) sN sN) sN ((plN sN zs k).map iv)) := by rw [hwd]; exact hst
        have hbrd := hidI (hbr.out.trans (hbd.mono hbr.out.size))
        have hbr1d := hidI (hbr1.out.trans (hbd.mono hbr1.out.size))
        have hbdk := hidI (hb.out.trans (hbd.mono (by omega)))
        have hltd : P < wd.heap.size := by have := hbd.size; omega
        replace hz := hidI hz
        replace hwd := hidI hwd
        replace hbd := hidI hbd
        replace hk := hidI hk
        replace hsw2 := hidI hsw2
        have hpB : plB sN zs k = (decide (0 ≤ z ∧ z < (sN : Int)) && decide ((plN sN zs k).getD z.toNat 0 = 0)) := by rw [hz.out]; rfl
        replace hpB := hidI hpB
        clear hst
        by_cases hr : 0 ≤ z ∧ z < (sN : Int)
        case neg =>
          have hOf : O = false := by
            rw [hOp.out]
            refine plAll_not (i := k) hlt ?_
            rw [hpB.out, decide_eq_false hr]; rfl
          have hin := in_any wd z 0 ((sN : Int) - 1)
          rw [decide_eq_false (show ¬ (0 ≤ z ∧ z ≤ (sN : Int) - 1) by omega)] at hin
          replace hr := hidI hr
          go_wp2
          refine hideQ (fun _ _ d _ _ h => by cases d <;> exact h) (fun Q' hnorm hpan => ?_)
          refine wp_region_held_drew (S := (fun W0 => W0.cell? ⟨ob, ooff + k, none⟩ = some (.int .i64 z) ∧ W0.cell? ⟨w.heap.size, 1, none⟩ = some (.int .i64 (sN : Int)))) (by kernel_rfl) ?_ (fun hHeld => ?_)
          · try dsimp only
            first | ((repeat' apply And.intro) <;> assumption) | (rw [← hwd.out]; ((repeat' apply And.intro) <;> assumption))
          rw [← hwd.out] at hHeld ⊢
          refine take_at 0 42 (v := ?_) rfl (by kernel_rfl) (by kernel_rfl) (by kernel_rfl) (by kernel_rfl) hpan (Or.inl ⟨by rfl, ?_⟩) (by assumption) ?_
          rotate_left
          · intro w hSw; (try dsimp only at hSw); go_simp; with_reducible rfl
          simp only [Act.put, List.setIfInBounds_toArray, List.set_cons_zero, List.set_cons_succ]
          refine take_at 1 43 (v := ?_) rfl (by kernel_rfl) (by kernel_rfl) (by kernel_rfl) (by kernel_rfl) hpan (Or.inl ⟨by rfl, ?_⟩) (by assumption) ?_
          rotate_left
          · intro w hSw; (try dsimp only at hSw); go_simp; with_reducible rfl
          simp only [Act.put, List.setIfInBounds_toArray, List.set_cons_zero, List.set_cons_succ]
          refine take_at 2 44 (v := ?_) rfl (by kernel_rfl) (by kernel_rfl) (by kernel_rfl) (by kernel_rfl) hpan (Or.inl ⟨by rfl, ?_⟩) (by assumption) ?_
          rotate_left
          · intro w hSw; (try dsimp only at hSw); go_simp; with_reducible rfl
          simp only [Act.put, List.setIfInBounds_toArray, List.set_cons_zero, List.set_cons_succ]
          refine take_at 3 45 (v := ?_) rfl (by kernel_rfl) (by kernel_rfl) (by kernel_rfl) (by kernel_rfl) hpan (Or.inl ⟨by rfl, ?_⟩) (by assumption) ?_
          rotate_left
          · intro w hSw; (try dsimp only at hSw); go_simp; with_reducible rfl
          simp only [Act.put, List.setIfInBounds_toArray, List.set_cons_zero, List.set_cons_succ]
          refine take_at 4 46 (v := ?_) rfl (by kernel_rfl) (by kernel_rfl) (by kernel_rfl) (by kernel_rfl) hpan (Or.inl ⟨by rfl, ?_⟩) (by assumption) ?_
          rotate_left
          · intro w hSw; (try dsimp only at hSw); go_simp; with_reducible rfl
          simp only [Act.put, List.setIfInBounds_toArray, List.set_cons_zero, List.set_cons_succ]
          refine take_at 5 47 (v := ?_) rfl (by kernel_rfl) (by kernel_rfl) (by kernel_rfl) (by kernel_rfl) hpan (Or.inl ⟨by rfl, ?_⟩) (by assumption) ?_
          rotate_left
          · intro w hSw; (try dsimp only at hSw); go_simp; with_reducible rfl
          simp only [Act.put, List.setIfInBounds_toArray, List.set_cons_zero, List.set_cons_succ]
          refine take_at 6 48 (v := ?_) rfl (by kernel_rfl) (by kernel_rfl) (by kernel_rfl) (by kernel_rfl) hpan (Or.inl ⟨by rfl, ?_⟩) (by assumption) ?_
          rotate_left
          · intro w hSw; (try dsimp only at hSw); go_simp; with_reducible rfl
          simp only [Act.put, List.setIfInBounds_toArray, List.set_cons_zero, List.set_cons_succ]
          refine wpAnyH_ready (rs := [7]) (by kernel_rfl) (by simp) ?_
          refine AllReadyH.cons rfl (fun K hK => ?_) AllReadyH.nil
          rw [if_pos (by rfl)]
          go_simp
          try rw [hsub]
          refine hin.mono ?_
          rintro e w4 ⟨rfl, rfl⟩
          refine hK.out _ _ ?_ (fun hHeld => ?_)
          · try dsimp only
            first | ((repeat' apply And.intro) <;> assumption) | (rw [← hwd.out]; ((repeat' apply And.intro) <;> assumption))
          clear hK
          try simp only [Act.put, List.setIfInBounds_toArray, List.set_cons_zero, List.set_cons_succ]
          refine take_at 8 50 (v := ?_) rfl (by kernel_rfl) (by kernel_rfl) (by kernel_rfl) (by kernel_rfl) hpan (Or.inl ⟨by rfl, ?_⟩) (by assumption) ?_
          rotate_left
          · intro w hSw; (try dsimp only at hSw); go_simp; with_reducible rfl
          simp only [Act.put, List.setIfInBounds_toArray, List.set_cons_zero, List.set_cons_succ]
          refine take_at 9 51 (v := ?_) rfl (by kernel_rfl) (by kernel_rfl) (by kernel_rfl) (by kernel_rfl) hpan (Or.inl ⟨by rfl, ?_⟩) (by assumption) ?_
          rotate_left
          · intro w hSw; (try dsimp only at hSw); go_simp; with_reducible rfl
          simp only [Act.put, List.setIfInBounds_toArray, List.set_cons_zero, List.set_cons_succ]
          refine take_at 10 52 (v := undef) rfl (by kernel_rfl) (by kernel_rfl) (by kernel_rfl) (by kernel_rfl) hpan (Or.inr ⟨by kernel_rfl, rfl⟩) (by assumption) ?_
          simp only [Act.put, List.setIfInBounds_toArray, List.set_cons_zero, List.set_cons_succ]
          refine take_at 11 53 (v := undef) rfl (by kernel_rfl) (by kernel_rfl) (by kernel_rfl) (by kernel_rfl) hpan (Or.inr ⟨by kernel_rfl, rfl⟩) (by assumption) ?_
          simp only [Act.put, List.setIfInBounds_toArray, List.set_cons_zero, List.set_cons_succ]
          refine take_at 12 54 (v := undef) rfl (by kernel_rfl) (by kernel_rfl) (by kernel_rfl) (by kernel_rfl) hpan (Or.inr ⟨by kernel_rfl, rfl⟩) (by assumption) ?_
          simp only [Act.put, List.setIfInBounds_toArray, List.set_cons_zero, List.set_cons_succ]
          refine take_at 13 55 (v := undef) rfl (by kernel_rfl) (by kernel_rfl) (by kernel_rfl) (by kernel_rfl) hpan (Or.inr ⟨by kernel_rfl, rfl⟩) (by assumption) ?_
          simp only [Act.put, List.setIfInBounds_toArray, List.set_cons_zero, List.set_cons_succ]
          refine take_at 14 56 (v := undef) rfl (by kernel_rfl) (by kernel_rfl) (by kernel_rfl) (by kernel_rfl) hpan (Or.inr ⟨by kernel_rfl, rfl⟩) (by assumption) ?_
          simp only [Act.put, List.setIfInBounds_toArray, List.set_cons_zero, List.set_cons_succ]
          refine take_at 15 57 (v := undef) rfl (by kernel_rfl) (by kernel_rfl) (by kernel_rfl) (by kernel_rfl) hpan (Or.inr ⟨by kernel_rfl, rfl⟩) (by assumption) ?_
          simp only [Act.put, List.setIfInBounds_toArray, List.set_cons_zero, List.set_cons_succ]
          refine take_at 16 58 (v := undef) rfl (by kernel_rfl) (by kernel_rfl) (by kernel_rfl) (by kernel_rfl) hpan (Or.inr ⟨by kernel_rfl, rfl⟩) (by assumption) ?_
          simp only [Act.put, List.setIfInBounds_toArray, List.set_cons_zero, List.set_cons_succ]
          refine take_at 17 59 (v := undef) rfl (by kernel_rfl) (by kernel_rfl) (by kernel_rfl) (by kernel_rfl) hpan (Or.inr ⟨by kernel_rfl, rfl⟩) (by assumption) ?_
          simp only [Act.put, List.setIfInBounds_toArray, List.set_cons_zero, List.set_cons_succ]
          refine take_at 18 60 (v := ?_) rfl (by kernel_rfl) (by kernel_rfl) (by kernel_rfl) (by kernel_rfl) hpan (Or.inl ⟨by rfl, ?_⟩) (by assumption) ?_
          rotate_left
          · intro w hSw; (try dsimp only at hSw); go_simp; with_reducible rfl
          simp only [Act.put, List.setIfInBounds_toArray, List.set_cons_zero, List.set_cons_succ]
          refine wpAnyH_done (by kernel_rfl) ?_ _
          refine hnorm _ _ ?_
          clear hnorm hpan
          repeat clear hHeld
          try simp only [Exit.then]
          replace g1 := x1
          clear hin co x0
          replace hOf := hidI hOf
          obtain ⟨hZS0, hZE0⟩ := hno.out hOf.out
          have hcc := hcopy.out wd ((h.out.below hbrd.out).mono hbrd.out.size)
          replace hZS0 := hidI hZS0
          replace hZE0 := hidI hZE0
          go_wp2_with fail
          refine hcc.mono ?_
          rintro e w5 ⟨ca, cc, rfl, hrow, hb5⟩
          rw [← hn.out]
          rw [← hn.out] at hrow
          clear hcc
          have hb15 : Below w.heap.size w w5 := hbrd.out.trans (hb5.mono hbrd.out.size)
          have hR5 := hRk.out w5 (hbr1d.out.trans (hb5.mono hbr1d.out.size))
          have y0 := cell_of_heap hR5 0
          have y1 := cell_of_heap hR5 1
          have y2 := cell_of_heap hR5 2
          have f2 := fun j => frozen_of_row w5 (w.heap.size + 1) j _ _ hR5
          simp at y0 y1 y2
          have hfin : LwGraphBool w r (sN : Int) es false (.returned (.tuple #[.agg #[.int .i64 r, .int .i64 (sN : Int), .slice ca n cc], .bool false])) (((w5.setCell ⟨w.heap.size + 1, 0, none⟩ (.int .i64 r)).setCell ⟨w.heap.size + 1, 1, none⟩ (.int .i64 (sN : Int))).setCell ⟨w.heap.size + 1, 2, none⟩ (.slice ca n cc)) := by
            have hrw := hrow
            rw [hn.out] at hrw
            rw [hn.out]
            have hRl : w.heap.size + 1 < wd.heap.size := by have := hs1.out; have := hbr1d.out.size; omega
            exact ⟨ca, cc, rfl, (RowS.set3_ hrw (.inl hRl)).wide hbrd.out.size (by rw [size_set3]; exact Nat.le_refl _), hend.out _ _ _ _ hb15⟩
          have hset := set3 hR5 (.int .i64 r) (.int .i64 (sN : Int)) (.slice ca n cc)
          replace hfin := hidI hfin
          replace hset := hidI hset
          replace hR5 := hidI hR5
          replace hrow := hidI hrow
          replace hb5 := hidI hb5
          replace hb15 := hidI hb15
          clear g0 g1 g2
          go_wp2
          (try simp only [Exit.inBlock, Exit.then])
          refine ret_cell2 (x := .bool false) rfl rfl rfl hset.out Tryz.underlying28 sizeGraph ?_
          rw [hOf.out, hZS0.out, hZE0.out]
          exact hfin.out
        obtain ⟨zN, rfl⟩ : ∃ zN : Nat, z = (zN : Int) := ⟨z.toNat, by omega⟩
        have hzs : zN < sN := by omega
        have hzi : (zN : Int) < (sN : Int) := by omega
        have x2 := plN_cell hstd.out hzs
        obtain ⟨q, hq⟩ : ∃ q, q = (plN sN zs k).getD zN 0 := ⟨_, rfl⟩
        rw [← hq] at x2
        rw [Int.toNat_natCast, ← hq, decide_eq_true hr] at hpB
        have hin := in_any wd (zN : Int) 0 ((sN : Int) - 1)
        rw [decide_eq_true (show 0 ≤ (zN : Int) ∧ (zN : Int) ≤ (sN : Int) - 1 by omega)] at hin
        replace hr := hidI hr
        replace hq := hidI hq
        go_wp2
        refine hideQ (fun _ _ d _ _ h => by cases d <;> exact h) (fun Q' hnorm hpan => ?_)
        refine wp_region_held_drew (S := (fun W0 => W0.cell? ⟨ob, ooff + k, none⟩ = some (.int .i64 (zN : Int)) ∧ W0.cell? ⟨w.heap.size, 1, none⟩ = some (.int .i64 (sN : Int)) ∧ W0.cell? ⟨P, zN, none⟩ = some (.int .i64 q))) (by kernel_rfl) ?_ (fun hHeld => ?_)
        · try dsimp only
          first | ((repeat' apply And.intro) <;> assumption) | (rw [← hwd.out]; ((repeat' apply And.intro) <;> assumption))
        rw [← hwd.out] at hHeld ⊢
        refine take_at 0 42 (v := ?_) rfl (by kernel_rfl) (by kernel_rfl) (by kernel_rfl) (by kernel_rfl) hpan (Or.inl ⟨by rfl, ?_⟩) (by assumption) ?_
        rotate_left
        · intro w hSw; (try dsimp only at hSw); go_simp; with_reducible rfl
        simp only [Act.put, List.setIfInBounds_toArray, List.set_cons_zero, List.set_cons_succ]
        refine take_at 1 43 (v := ?_) rfl (by kernel_rfl) (by kernel_rfl) (by kernel_rfl) (by kernel_rfl) hpan (Or.inl ⟨by rfl, ?_⟩) (by assumption) ?_
        rotate_left
        · intro w hSw; (try dsimp only at hSw); go_simp; with_reducible rfl
        simp only [Act.put, List.setIfInBounds_toArray, List.set_cons_zero, List.set_cons_succ]
        refine take_at 2 44 (v := ?_) rfl (by kernel_rfl) (by kernel_rfl) (by kernel_rfl) (by kernel_rfl) hpan (Or.inl ⟨by rfl, ?_⟩) (by assumption) ?_
        rotate_left
        · intro w hSw; (try dsimp only at hSw); go_simp; with_reducible rfl
        simp only [Act.put, List.setIfInBounds_toArray, List.set_cons_zero, List.set_cons_succ]
        refine take_at 3 45 (v := ?_) rfl (by kernel_rfl) (by kernel_rfl) (by kernel_rfl) (by kernel_rfl) hpan (Or.inl ⟨by rfl, ?_⟩) (by assumption) ?_
        rotate_left
        · intro w hSw; (try dsimp only at hSw); go_simp; with_reducible rfl
        simp only [Act.put, List.setIfInBounds_toArray, List.set_cons_zero, List.set_cons_succ]
        refine take_at 4 46 (v := ?_) rfl (by kernel_rfl) (by kernel_rfl) (by kernel_rfl) (by kernel_rfl) hpan (Or.inl ⟨by rfl, ?_⟩) (by assumption) ?_
        rotate_left
        · intro w hSw; (try dsimp only at hSw); go_simp; with_reducible rfl
        simp only [Act.put, List.setIfInBounds_toArray, List.set_cons_zero, List.set_cons_succ]
        refine take_at 5 47 (v := ?_) rfl (by kernel_rfl) (by kernel_rfl) (by kernel_rfl) (by kernel_rfl) hpan (Or.inl ⟨by rfl, ?_⟩) (by assumption) ?_
        rotate_left
        · intro w hSw; (try dsimp only at hSw); go_simp; with_reducible rfl
        simp only [Act.put, List.setIfInBounds_toArray, List.set_cons_zero, List.set_cons_succ]
        refine take_at 6 48 (v := ?_) rfl (by kernel_rfl) (by kernel_rfl) (by kernel_rfl) (by kernel_rfl) hpan (Or.inl ⟨by rfl, ?_⟩) (by assumption) ?_
        rotate_left
        · intro w hSw; (try dsimp only at hSw); go_simp; with_reducible rfl
        simp only [Act.put, List.setIfInBounds_toArray, List.set_cons_zero, List.set_cons_succ]
        refine wpAnyH_ready (rs := [7]) (by kernel_rfl) (by simp) ?_
        refine AllReadyH.cons rfl (fun K hK => ?_) AllReadyH.nil
        rw [if_pos (by rfl)]
        go_simp
        try rw [hsub]
        refine hin.mono ?_
        rintro e w4 ⟨rfl, rfl⟩
        refine hK.out _ _ ?_ (fun hHeld => ?_)
        · try dsimp only
          first | ((repeat' apply And.intro) <;> assumption) | (rw [← hwd.out]; ((repeat' apply And.intro) <;> assumption))
        clear hK
        try simp only [Act.put, List.setIfInBounds_toArray, List.set_cons_zero, List.set_cons_succ]
        refine take_at 8 50 (v := ?_) rfl (by kernel_rfl) (by kernel_rfl) (by kernel_rfl) (by kernel_rfl) hpan (Or.inl ⟨by rfl, ?_⟩) (by assumption) ?_
        rotate_left
        · intro w hSw; (try dsimp only at hSw); go_simp; with_reducible rfl
        simp only [Act.put, List.setIfInBounds_toArray, List.set_cons_zero, List.set_cons_succ]
        refine take_at 9 51 (v := ?_) rfl (by kernel_rfl) (by kernel_rfl) (by kernel_rfl) (by kernel_rfl) hpan (Or.inl ⟨by rfl, ?_⟩) (by assumption) ?_
        rotate_left
        · intro w hSw; (try dsimp only at hSw); go_simp; with_reducible rfl
        simp only [Act.put, List.setIfInBounds_toArray, List.set_cons_zero, List.set_cons_succ]
        refine take_at 10 52 (v := ?_) rfl (by kernel_rfl) (by kernel_rfl) (by kernel_rfl) (by kernel_rfl) hpan (Or.inl ⟨by kernel_rfl, ?_⟩) (by assumption) ?_
        rotate_left
        · intro w hSw; (try dsimp only at hSw); go_simp; with_reducible rfl
        simp only [Act.put, List.setIfInBounds_toArray, List.set_cons_zero, List.set_cons_succ]
        refine take_at 11 53 (v := ?_) rfl (by kernel_rfl) (by kernel_rfl) (by kernel_rfl) (by kernel_rfl) hpan (Or.inl ⟨by kernel_rfl, ?_⟩) (by assumption) ?_
        rotate_left
        · intro w hSw; (try dsimp only at hSw); go_simp; with_reducible rfl
        simp only [Act.put, List.setIfInBounds_toArray, List.set_cons_zero, List.set_cons_succ]
        refine take_at 12 54 (v := ?_) rfl (by kernel_rfl) (by kernel_rfl) (by kernel_rfl) (by kernel_rfl) hpan (Or.inl ⟨by kernel_rfl, ?_⟩) (by assumption) ?_
        rotate_left
        · intro w hSw; (try dsimp only at hSw); go_simp; with_reducible rfl
        simp only [Act.put, List.setIfInBounds_toArray, List.set_cons_zero, List.set_cons_succ]
        refine take_at 13 55 (v := ?_) rfl (by kernel_rfl) (by kernel_rfl) (by kernel_rfl) (by kernel_rfl) hpan (Or.inl ⟨by kernel_rfl, ?_⟩) (by assumption) ?_
        rotate_left
        · intro w hSw; (try dsimp only at hSw); go_simp; with_reducible rfl
        simp only [Act.put, List.setIfInBounds_toArray, List.set_cons_zero, List.set_cons_succ]
        refine take_at 14 56 (v := ?_) rfl (by kernel_rfl) (by kernel_rfl) (by kernel_rfl) (by kernel_rfl) hpan (Or.inl ⟨by kernel_rfl, ?_⟩) (by assumption) ?_
        rotate_left
        · intro w hSw; (try dsimp only at hSw); go_simp; with_reducible rfl
        simp only [Act.put, List.setIfInBounds_toArray, List.set_cons_zero, List.set_cons_succ]
        refine take_at 15 57 (v := ?_) rfl (by kernel_rfl) (by kernel_rfl) (by kernel_rfl) (by kernel_rfl) hpan (Or.inl ⟨by kernel_rfl, ?_⟩) (by assumption) ?_
        rotate_left
        · intro w hSw; (try dsimp only at hSw); go_simp; with_reducible rfl
        simp only [Act.put, List.setIfInBounds_toArray, List.set_cons_zero, List.set_cons_succ]
        refine take_at 16 58 (v := ?_) rfl (by kernel_rfl) (by kernel_rfl) (by kernel_rfl) (by kernel_rfl) hpan (Or.inl ⟨by kernel_rfl, ?_⟩) (by assumption) ?_
        rotate_left
        · intro w hSw; (try dsimp only at hSw); go_simp; with_reducible rfl
        simp only [Act.put, List.setIfInBounds_toArray, List.set_cons_zero, List.set_cons_succ]
        refine take_at 17 59 (v := ?_) rfl (by kernel_rfl) (by kernel_rfl) (by kernel_rfl) (by kernel_rfl) hpan (Or.inl ⟨by kernel_rfl, ?_⟩) (by assumption) ?_
        rotate_left
        · intro w hSw; (try dsimp only at hSw); go_simp; with_reducible rfl
        simp only [Act.put, List.setIfInBounds_toArray, List.set_cons_zero, List.set_cons_succ]
        refine take_at 18 60 (v := ?_) rfl (by kernel_rfl) (by kernel_rfl) (by kernel_rfl) (by kernel_rfl) hpan (Or.inl ⟨by rfl, ?_⟩) (by assumption) ?_
        rotate_left
        · intro w hSw; (try dsimp only at hSw); go_simp; with_reducible rfl
        simp only [Act.put, List.setIfInBounds_toArray, List.set_cons_zero, List.set_cons_succ]
        refine wpAnyH_done (by kernel_rfl) ?_ _
        refine hnorm _ _ ?_
        clear hnorm hpan
        repeat clear hHeld
        try simp only [Exit.then]
        replace g1 := x1
        clear hin co
        by_cases hq0 : q = 0
        case neg =>
          have hOf : O = false := by
            rw [hOp.out]
            refine plAll_not (i := k) hlt ?_
            rw [hpB.out, decide_eq_false hq0]; rfl
          have hqz : (q == 0) = false := by rw [beq_eq_false_iff_ne]; exact hq0
          clear x0 x2
          replace hOf := hidI hOf
          obtain ⟨hZS0, hZE0⟩ := hno.out hOf.out
          have hcc := hcopy.out wd ((h.out.below hbrd.out).mono hbrd.out.size)
          replace hZS0 := hidI hZS0
          replace hZE0 := hidI hZE0
          go_wp2_with fail
          refine hcc.mono ?_
          rintro e w5 ⟨ca, cc, rfl, hrow, hb5⟩
          rw [← hn.out]
          rw [← hn.out] at hrow
          clear hcc
          have hb15 : Below w.heap.size w w5 := hbrd.out.trans (hb5.mono hbrd.out.size)
          have hR5 := hRk.out w5 (hbr1d.out.trans (hb5.mono hbr1d.out.size))
          have y0 := cell_of_heap hR5 0
          have y1 := cell_of_heap hR5 1
          have y2 := cell_of_heap hR5 2
          have f2 := fun j => frozen_of_row w5 (w.heap.size + 1) j _ _ hR5
          simp at y0 y1 y2
          have hfin : LwGraphBool w r (sN : Int) es false (.returned (.tuple #[.agg #[.int .i64 r, .int .i64 (sN : Int), .slice ca n cc], .bool false])) (((w5.setCell ⟨w.heap.size + 1, 0, none⟩ (.int .i64 r)).setCell ⟨w.heap.size + 1, 1, none⟩ (.int .i64 (sN : Int))).setCell ⟨w.heap.size + 1, 2, none⟩ (.slice ca n cc)) := by
            have hrw := hrow
            rw [hn.out] at hrw
            rw [hn.out]
            have hRl : w.heap.size + 1 < wd.heap.size := by have := hs1.out; have := hbr1d.out.size; omega
            exact ⟨ca, cc, rfl, (RowS.set3_ hrw (.inl hRl)).wide hbrd.out.size (by rw [size_set3]; exact Nat.le_refl _), hend.out _ _ _ _ hb15⟩
          have hset := set3 hR5 (.int .i64 r) (.int .i64 (sN : Int)) (.slice ca n cc)
          replace hfin := hidI hfin
          replace hset := hidI hset
          replace hR5 := hidI hR5
          replace hrow := hidI hrow
          replace hb5 := hidI hb5
          replace hb15 := hidI hb15
          clear g0 g1 g2
          go_wp2
          (try simp only [Exit.inBlock, Exit.then])
          refine ret_cell2 (x := .bool false) rfl rfl rfl hset.out Tryz.underlying28 sizeGraph ?_
          rw [hOf.out, hZS0.out, hZE0.out]
          exact hfin.out
        have hqz : (q == 0) = true := by rw [beq_iff_eq]; exact hq0
        have hnx : Hid (∀ j, j < k + 1 → plB sN zs j = true) := hidI fun j hj => by
          by_cases e : j = k
          · subst e; rw [hpB.out, decide_eq_true hq0]; rfl
          · exact hall.out j (by omega)
        have hf0 := hstd.out.frozenAt zN
        have hs5 := hidI (show (wd.setCell ⟨P, zN, none⟩ (.int .i64 ((k : Int) + 1))).ownsRow P 3 1 (.slice (some ⟨P, 0, none⟩) sN sN) sN ((plN sN zs (k + 1)).map iv) by
          have := (hstd.out.stored zN (.int .i64 ((k : Int) + 1))).1
          have hl := plN_length sN zs k
          rw [plN_succ, ← hz.out, Int.toNat_natCast, List.map_set]
          exact this)
        have hb5 := hidI (hbdk.out.setCell (p := ⟨P, zN, none⟩) (Nat.le_refl _) (.int .i64 ((k : Int) + 1)))
        have hlw5 : P < (wd.setCell ⟨P, zN, none⟩ (.int .i64 ((k : Int) + 1))).heap.size := by
          have : (wd.setCell ⟨P, zN, none⟩ (.int .i64 ((k : Int) + 1))).heap.size = wd.heap.size := by simp [World.setCell]
          rw [this]; exact hltd
        replace hlw5 := hidI hlw5
        replace hq0 := hidI hq0
        clear hb
        go_wp2
        go_roundg (m - (k + 1))
        case rel => exact ⟨k + 1, by have := hk.out; omega, by go_num, hs5, hnx, hb5, hlw5.out⟩
        case measure => have := hk.out; omega
      · obtain rfl : k = m := by omega
        have hki : ¬ (k : Int) < (k : Int) := by omega
        have hOt : O = true := by rw [hOp.out]; exact (plAll_iff sN zs k).2 hall.out
        subst hOt
        obtain ⟨hZS1, hZE1⟩ := hyes.out rfl
        obtain ⟨pl, hpl⟩ : ∃ pl, pl = plN sN zs k := ⟨_, rfl⟩
        rw [← hpl] at hZE1
        have hpin := plN_in sN zs k
        rw [← hpl] at hpin
        have hk40 : k ≤ 40 := by omega
        obtain ⟨wA, hwA⟩ : ∃ z, z = wr := ⟨_, rfl⟩
        subst hwA
        have hXA := hXk.out wA hbr1.out
        have hst1 : Hid (∃ v', MSt wA (w.heap.size + 1 + 1) (w.heap.size + 1 + 1) r (k : Int) v' (rnN pl es 0)) := hidI ⟨.slice none 0 0, hXA, (w.heap.size + 1 + 1), (w.heap.size + 1 + 1), ⟨rfl, Nat.zero_le _, .inl ⟨rfl, rfl⟩⟩, Nat.le_refl _, by omega, .inl (Nat.le_refl _)⟩
        have hkA : Hid (Below (w.heap.size + 1 + 1) wA wA) := hidI (Below.refl _ _)
        have hrdA := hidI (h.out.below hbr.out)
        replace hXA := hidI hXA
        replace hZS1 := hidI hZS1
        replace hZE1 := hidI hZE1
        replace hpin := hidI hpin
        replace hpl := hidI hpl
        replace hk := hidI hk
        have hlA := hlw
        clear hall g0 g1
        go_wp2
        go_loopg [9] n (fun g i wr => ∃ j : Nat, j + g = n ∧ i = .int .i64 j ∧ Hid (∃ v', MSt wr (w.heap.size + 1 + 1) (w.heap.size + 1 + 1) r (k : Int) v' (rnN pl es j)) ∧ Hid (Below (w.heap.size + 1 + 1) wA wr) ∧ Hid (wr.heap[P]? = wA.heap[P]?) ∧ P < wr.heap.size)
        case atStart => exact ⟨0, by omega, rfl, hst1, hkA, hidI (by first | rfl | trivial), hlA⟩
        case round =>
          clear hst1 hkA
          obtain ⟨j, hj, rfl, hst2, hkb, hPk, hlP⟩ := hrel
          obtain ⟨v6, hP6⟩ := hst2.out
          obtain ⟨E, hE⟩ : ∃ E, E = rnN pl es j := ⟨_, rfl⟩
          rw [← hE] at hP6
          have hEl : E.length ≤ 1000000 := by rw [hE]; have := rnN_length pl es j; omega
          obtain ⟨av, cv, rfl⟩ := hP6.form
          have p2 := below_cell g2 hkb.out (by omega)
          have hrow := ownsRow_keep hst.out hPk.out
          rw [← hpl.out] at hrow
          by_cases hlt2 : j < n
          · have hji : (j : Int) < (n : Int) := by omega
            have hjl : j < es.length := by have := hn.out; omega
            obtain ⟨b, off, hab, hBb, x0, x1, x2⟩ := ReadE.at3 (hrdA.out.below (hkb.out.mono (by omega))) j hjl
            subst hab
            have hee := place_of hgr.out hjl
            obtain ⟨f, hf⟩ : ∃ z, z = (es.getD j e0).1 := ⟨_, rfl⟩
            obtain ⟨l, hll⟩ : ∃ z, z = (es.getD j e0).2.1 := ⟨_, rfl⟩
            obtain ⟨t, ht⟩ : ∃ z, z = (es.getD j e0).2.2 := ⟨_, rfl⟩
            rw [← hf] at x0
            rw [← hll] at x1
            rw [← ht] at x2
            rw [← hf, ← ht] at hee
            obtain ⟨fN, hfN⟩ : ∃ fN : Nat, f = (fN : Int) := ⟨f.toNat, by omega⟩
            subst hfN
            obtain ⟨tN, htN⟩ : ∃ tN : Nat, t = (tN : Int) := ⟨t.toNat, by omega⟩
            subst htN
            have hfs : fN < sN := by omega
            have hts : tN < sN := by omega
            have hfi : (fN : Int) < (sN : Int) := by omega
            have hti : (tN : Int) < (sN : Int) := by omega
            rw [hpl.out] at hrow
            have c3 := plN_cell hrow hfs
            have c4 := plN_cell hrow hts
            rw [← hpl.out] at c3 c4
            obtain ⟨A, hA⟩ : ∃ z, z = pl.getD fN 0 := ⟨_, rfl⟩
            obtain ⟨Q, hQ⟩ : ∃ z, z = pl.getD tN 0 := ⟨_, rfl⟩
            rw [← hA] at c3
            rw [← hQ] at c4
            have hAb : 0 ≤ A ∧ A ≤ 40 := by have := hpin.out fN; rw [← hA] at this; omega
            have hQb : 0 ≤ Q ∧ Q ≤ 40 := by have := hpin.out tN; rw [← hQ] at this; omega
            have hnum : Hid (rnN pl es (j + 1) = if decide (0 < A ∧ 0 < Q) = true then putE (A - 1, l, Q - 1) E else E) := hidI (by
              rw [rnN, inP, numE, ← hf, ← ht, ← hll, Int.toNat_natCast, Int.toNat_natCast, ← hA, ← hQ, ← hE])
            obtain ⟨w4, hw4⟩ : ∃ z, z = wr.alloc (.cells #[.int .i64 fN, .int .i64 l, .int .i64 tN] 54) := ⟨_, rfl⟩
            have hb4 : Below wr.heap.size wr w4 := by rw [hw4]; exact (Below.refl _ _).alloc (Nat.le_refl _) _
            have hs4 : w4.heap.size = wr.heap.size + 1 := by rw [hw4]; simp
            obtain ⟨e0_, e1_, e2_⟩ := box3 hw4
            obtain ⟨Y, hY⟩ : ∃ Y, Y = wr.heap.size := ⟨_, rfl⟩
            have hXr : (w.heap.size + 1 + 1) < wr.heap.size := by omega
            have hS4 : MSt w4 (w.heap.size + 1 + 1) (w.heap.size + 1 + 1) r (k : Int) (.slice av E.length cv) E := hP6.below hXr hb4
            have hk4 : Below (w.heap.size + 1 + 1) wA w4 := hkb.out.trans (hb4.mono (by omega))
            have hP4 : w4.heap[P]? = wA.heap[P]? := (hb4.block P hlP).trans hPk.out
            have hl4 : P < w4.heap.size := by omega
            have d3 := below_cell c3 hb4 hlP
            have d4 := below_cell c4 hb4 hlP
            have hYP : P < Y := by omega
            rw [← hY] at e0_ e1_ e2_
            replace hf := hidI hf
            replace hll := hidI hll
            replace ht := hidI ht
            replace hE := hidI hE
            replace hj := hidI hj
            replace hP6 := hidI hP6
            replace hA := hidI hA
            replace hQ := hidI hQ
            replace hs4 := hidI hs4
            replace hrow := hidI hrow
            replace hee := hidI hee
            clear hst2
            go_upto_region 15 with fail
            rw [← hw4]
            replace hw4 := hidI hw4
            rw [← hY]
            clear x0 x1 x2 p2 c3 c4
            by_cases hA0 : 0 < A
            case neg =>
              have hnx : rnN pl es (j + 1) = E := by rw [hnum.out, decide_eq_false (show ¬ (0 < A ∧ 0 < Q) by omega)]; rfl
              have hst7 : Hid (∃ v', MSt w4 (w.heap.size + 1 + 1) (w.heap.size + 1 + 1) r (k : Int) v' (rnN pl es (j + 1))) := hidI ⟨_, by rw [hnx]; exact hS4⟩
              replace hnx := hidI hnx
              replace hS4 := hidI hS4
              replace hk4 := hidI hk4
              replace hP4 := hidI hP4
              replace hb4 := hidI hb4
              replace hY := hidI hY
              go_wp2
              go_roundg (n - (j + 1))
              case rel => exact ⟨j + 1, by have := hj.out; omega, by go_num, hst7, hk4, hP4, hl4⟩
              case measure => have := hj.out; omega
            by_cases hQ0 : 0 < Q
            case neg =>
              have hnx : rnN pl es (j + 1) = E := by rw [hnum.out, decide_eq_false (show ¬ (0 < A ∧ 0 < Q) by omega)]; rfl
              have hst7 : Hid (∃ v', MSt w4 (w.heap.size + 1 + 1) (w.heap.size + 1 + 1) r (k : Int) v' (rnN pl es (j + 1))) := hidI ⟨_, by rw [hnx]; exact hS4⟩
              replace hnx := hidI hnx
              replace hS4 := hidI hS4
              replace hk4 := hidI hk4
              replace hP4 := hidI hP4
              replace hb4 := hidI hb4
              replace hY := hidI hY
              go_wp2
              go_roundg (n - (j + 1))
              case rel => exact ⟨j + 1, by have := hj.out; omega, by go_num, hst7, hk4, hP4, hl4⟩
              case measure => have := hj.out; omega
            have hsA : IntKind.i64.wrap (A - 1) = A - 1 := IntWalk.i64_in _ (by omega)
            have hsQ : IntKind.i64.wrap (Q - 1) = Q - 1 := IntWalk.i64_in _ (by omega)
            have hnx : Hid (rnN pl es (j + 1) = putE (A - 1, l, Q - 1) E) := hidI (by rw [hnum.out, decide_eq_true (show 0 < A ∧ 0 < Q by omega)]; rfl)
            obtain ⟨v0, hv0⟩ : ∃ z, z = w4.drew := ⟨_, rfl⟩
            have hS0 : MSt v0 (w.heap.size + 1 + 1) (w.heap.size + 1 + 1) r (k : Int) (.slice av E.length cv) E := by rw [hv0]; exact hS4.drew
            have hB0 : Below (w.heap.size + 1 + 1) wA v0 := by rw [hv0]; exact below_dn hk4 1
            have hP0 : v0.heap[P]? = wA.heap[P]? := by rw [hv0]; exact hP4
            have hZ0 : Y < v0.heap.size := by rw [hv0]; show Y < w4.heap.size; have := hs4.out; omega
            have hl0 : P < v0.heap.size := by omega
            have y0 : v0.cell? ⟨Y, 0, none⟩ = some (.int .i64 fN) := by rw [hv0]; exact e0_
            have y1 : v0.cell? ⟨Y, 1, none⟩ = some (.int .i64 l) := by rw [hv0]; exact e1_
            have y2 : v0.cell? ⟨Y, 2, none⟩ = some (.int .i64 tN) := by rw [hv0]; exact e2_
            have y3 : v0.cell? ⟨P, fN, none⟩ = some (.int .i64 A) := by rw [hv0]; exact d3
            have y4 : v0.cell? ⟨P, tN, none⟩ = some (.int .i64 Q) := by rw [hv0]; exact d4
            replace hv0 := hidI hv0
            replace hS4 := hidI hS4
            replace hk4 := hidI hk4
            replace hP4 := hidI hP4
            replace hb4 := hidI hb4
            replace hY := hidI hY
            go_upto_region 16 with fail
            clear e0_ e1_ e2_ d3 d4
            refine hideQ (fun _ _ d _ _ h => by cases d <;> exact h) (fun Q' hnorm hpan => ?_)
            refine wp_region_held_drew (S := (fun W0 => W0.cell? ⟨Y, 0, none⟩ = some (.int .i64 fN) ∧ W0.cell? ⟨Y, 1, none⟩ = some (.int .i64 l) ∧ W0.cell? ⟨Y, 2, none⟩ = some (.int .i64 tN) ∧ W0.cell? ⟨P, fN, none⟩ = some (.int .i64 A) ∧ W0.cell? ⟨P, tN, none⟩ = some (.int .i64 Q))) (by kernel_rfl) ?_ (fun hHeld => ?_)
            · try dsimp only
              rw [← hv0.out]
              ((repeat' apply And.intro) <;> assumption)
            rw [← hv0.out] at hHeld ⊢
            refine take_at 0 97 (v := ?_) rfl (by kernel_rfl) (by kernel_rfl) (by kernel_rfl) (by kernel_rfl) hpan (Or.inl ⟨by rfl, ?_⟩) (by assumption) ?_
            rotate_left
            · intro w hSw; (try dsimp only at hSw); go_simp; with_reducible rfl
            simp only [Act.put, List.setIfInBounds_toArray, List.set_cons_zero, List.set_cons_succ]
            refine take_at 2 99 (v := ?_) rfl (by kernel_rfl) (by kernel_rfl) (by kernel_rfl) (by kernel_rfl) hpan (Or.inl ⟨by rfl, ?_⟩) (by assumption) ?_
            rotate_left
            · intro w hSw; (try dsimp only at hSw); go_simp; with_reducible rfl
            simp only [Act.put, List.setIfInBounds_toArray, List.set_cons_zero, List.set_cons_succ]
            refine take_at 3 100 (v := ?_) rfl (by kernel_rfl) (by kernel_rfl) (by kernel_rfl) (by kernel_rfl) hpan (Or.inl ⟨by rfl, ?_⟩) (by assumption) ?_
            rotate_left
            · intro w hSw; (try dsimp only at hSw); go_simp; with_reducible rfl
            simp only [Act.put, List.setIfInBounds_toArray, List.set_cons_zero, List.set_cons_succ]
            refine take_at 4 101 (v := ?_) rfl (by kernel_rfl) (by kernel_rfl) (by kernel_rfl) (by kernel_rfl) hpan (Or.inl ⟨by rfl, ?_⟩) (by assumption) ?_
            rotate_left
            · intro w hSw; (try dsimp only at hSw); go_simp; with_reducible rfl
            simp only [Act.put, List.setIfInBounds_toArray, List.set_cons_zero, List.set_cons_succ]
            refine take_at 5 102 (v := ?_) rfl (by kernel_rfl) (by kernel_rfl) (by kernel_rfl) (by kernel_rfl) hpan (Or.inl ⟨by rfl, ?_⟩) (by assumption) ?_
            rotate_left
            · intro w hSw; (try dsimp only at hSw); go_simp; with_reducible rfl
            simp only [Act.put, List.setIfInBounds_toArray, List.set_cons_zero, List.set_cons_succ]
            refine take_at 6 103 (v := ?_) rfl (by kernel_rfl) (by kernel_rfl) (by kernel_rfl) (by kernel_rfl) hpan (Or.inl ⟨by rfl, ?_⟩) (by assumption) ?_
            rotate_left
            · intro w hSw; (try dsimp only at hSw); go_simp; with_reducible rfl
            simp only [Act.put, List.setIfInBounds_toArray, List.set_cons_zero, List.set_cons_succ]
            refine take_at 7 104 (v := ?_) rfl (by kernel_rfl) (by kernel_rfl) (by kernel_rfl) (by kernel_rfl) hpan (Or.inl ⟨by rfl, ?_⟩) (by assumption) ?_
            rotate_left
            · intro w hSw; (try dsimp only at hSw); go_simp; with_reducible rfl
            simp only [Act.put, List.setIfInBounds_toArray, List.set_cons_zero, List.set_cons_succ]
            refine take_at 8 105 (v := ?_) rfl (by kernel_rfl) (by kernel_rfl) (by kernel_rfl) (by kernel_rfl) hpan (Or.inl ⟨by rfl, ?_⟩) (by assumption) ?_
            rotate_left
            · intro w hSw; (try dsimp only at hSw); go_simp; with_reducible rfl
            simp only [Act.put, List.setIfInBounds_toArray, List.set_cons_zero, List.set_cons_succ]
            refine take_at 9 106 (v := ?_) rfl (by kernel_rfl) (by kernel_rfl) (by kernel_rfl) (by kernel_rfl) hpan (Or.inl ⟨by rfl, ?_⟩) (by assumption) ?_
            rotate_left
            · intro w hSw; (try dsimp only at hSw); go_simp; with_reducible rfl
            simp only [Act.put, List.setIfInBounds_toArray, List.set_cons_zero, List.set_cons_succ]
            refine take_at 10 107 (v := ?_) rfl (by kernel_rfl) (by kernel_rfl) (by kernel_rfl) (by kernel_rfl) hpan (Or.inl ⟨by rfl, ?_⟩) (by assumption) ?_
            rotate_left
            · intro w hSw; (try dsimp only at hSw); go_simp; with_reducible rfl
            simp only [Act.put, List.setIfInBounds_toArray, List.set_cons_zero, List.set_cons_succ]
            refine take_at 11 108 (v := ?_) rfl (by kernel_rfl) (by kernel_rfl) (by kernel_rfl) (by kernel_rfl) hpan (Or.inl ⟨by rfl, ?_⟩) (by assumption) ?_
            rotate_left
            · intro w hSw; (try dsimp only at hSw); go_simp; with_reducible rfl
            simp only [Act.put, List.setIfInBounds_toArray, List.set_cons_zero, List.set_cons_succ]
            refine take_at 12 109 (v := ?_) rfl (by kernel_rfl) (by kernel_rfl) (by kernel_rfl) (by kernel_rfl) hpan (Or.inl ⟨by rfl, ?_⟩) (by assumption) ?_
            rotate_left
            · intro w hSw; (try dsimp only at hSw); go_simp; with_reducible rfl
            simp only [Act.put, List.setIfInBounds_toArray, List.set_cons_zero, List.set_cons_succ]
            refine take_at 13 110 (v := ?_) rfl (by kernel_rfl) (by kernel_rfl) (by kernel_rfl) (by kernel_rfl) hpan (Or.inl ⟨by rfl, ?_⟩) (by assumption) ?_
            rotate_left
            · intro w hSw; (try dsimp only at hSw); go_simp; with_reducible rfl
            simp only [Act.put, List.setIfInBounds_toArray, List.set_cons_zero, List.set_cons_succ]
            refine take_at 14 111 (v := ?_) rfl (by kernel_rfl) (by kernel_rfl) (by kernel_rfl) (by kernel_rfl) hpan (Or.inl ⟨by rfl, ?_⟩) (by assumption) ?_
            rotate_left
            · intro w hSw; (try dsimp only at hSw); go_simp; with_reducible rfl
            simp only [Act.put, List.setIfInBounds_toArray, List.set_cons_zero, List.set_cons_succ]
            refine take_at 15 112 (v := ?_) rfl (by kernel_rfl) (by kernel_rfl) (by kernel_rfl) (by kernel_rfl) hpan (Or.inl ⟨by rfl, ?_⟩) (by assumption) ?_
            rotate_left
            · intro w hSw; (try dsimp only at hSw); go_simp; with_reducible rfl
            simp only [Act.put, List.setIfInBounds_toArray, List.set_cons_zero, List.set_cons_succ]
            refine take_at 16 113 (v := ?_) rfl (by kernel_rfl) (by kernel_rfl) (by kernel_rfl) (by kernel_rfl) hpan (Or.inl ⟨by rfl, ?_⟩) (by assumption) ?_
            rotate_left
            · intro w hSw; (try dsimp only at hSw); go_simp; with_reducible rfl
            simp only [Act.put, List.setIfInBounds_toArray, List.set_cons_zero, List.set_cons_succ]
            refine wpAnyH_ready (rs := [1]) (by kernel_rfl) (by simp) ?_
            refine AllReadyH.cons rfl (fun K hK => ?_) AllReadyH.nil
            rw [if_pos (by rfl)]
            have cX := cell_of_heap hS0.1 2
            simp at cX
            go_simp
            clear cX
            refine hK.out _ _ ?_ (fun hHeld => ?_)
            · try dsimp only
              ((repeat' apply And.intro) <;> assumption)
            clear hK
            try simp only [Act.put, List.setIfInBounds_toArray, List.set_cons_zero, List.set_cons_succ]
            have hcall := specPut v0 (.slice av E.length cv) E (A - 1) l (Q - 1) hS0.read (by omega)
            obtain ⟨E2, hE2⟩ : ∃ E2, E2 = putE (A - 1, l, Q - 1) E := ⟨_, rfl⟩
            rw [← hE2] at hcall
            have hnx2 := hidI (hnx.out.trans hE2.symm)
            replace hE2 := hidI hE2
            refine wpAnyH_ready (rs := [17]) (by kernel_rfl) (by simp) ?_
            refine AllReadyH.cons rfl (fun K hK => ?_) AllReadyH.nil
            rw [if_pos (by rfl)]
            go_simp
            try simp only [hsA, hsQ]
            go_at_call 46
            (with_reducible refine hcall.mono ?_)
            rintro e w6 ⟨a2, c2, rfl, hrow6, hb6⟩
            have hs6 := hb6.size
            replace y0 := below_cell y0 hb6 (by omega)
            replace y1 := below_cell y1 hb6 (by omega)
            replace y2 := below_cell y2 hb6 (by omega)
            replace y3 := below_cell y3 hb6 (by omega)
            replace y4 := below_cell y4 hb6 (by omega)
            have hX6 : w6.heap[(w.heap.size + 1 + 1)]? = _ := (hb6.block (w.heap.size + 1 + 1) (by omega)).trans hS0.1
            have c6 := cell_of_heap hX6 2
            have f6 := fun j => frozen_of_row w6 (w.heap.size + 1 + 1) j _ _ hX6
            simp at c6
            have hS7 := hS0.put (by omega) hb6 (by omega) hrow6
            have hb7 : Below (w.heap.size + 1 + 1) wA (w6.setCell ⟨(w.heap.size + 1 + 1), 2, none⟩ (.slice a2 E2.length c2)) := (hB0.trans (hb6.mono (by omega))).setCell (p := ⟨(w.heap.size + 1 + 1), 2, none⟩) (Nat.le_refl _) _
            have hP7 : (w6.setCell ⟨(w.heap.size + 1 + 1), 2, none⟩ (.slice a2 E2.length c2)).heap[P]? = wA.heap[P]? := (Below.heap_setCell _ _ _ _ (show P ≠ (w.heap.size + 1 + 1) by omega)).trans ((hb6.block P hl0).trans hP0)
            have hl7 : P < (w6.setCell ⟨(w.heap.size + 1 + 1), 2, none⟩ (.slice a2 E2.length c2)).heap.size := by simp [World.setCell]; omega
            have z0 : (w6.setCell ⟨(w.heap.size + 1 + 1), 2, none⟩ (.slice a2 E2.length c2)).cell? ⟨Y, 0, none⟩ = some (.int .i64 fN) := (World.cell?_of_block (w := w6) (a := ⟨Y, 0, none⟩) (Below.heap_setCell _ _ _ _ (show Y ≠ (w.heap.size + 1 + 1) by omega))).trans y0
            have z1 : (w6.setCell ⟨(w.heap.size + 1 + 1), 2, none⟩ (.slice a2 E2.length c2)).cell? ⟨Y, 1, none⟩ = some (.int .i64 l) := (World.cell?_of_block (w := w6) (a := ⟨Y, 1, none⟩) (Below.heap_setCell _ _ _ _ (show Y ≠ (w.heap.size + 1 + 1) by omega))).trans y1
            have z2 : (w6.setCell ⟨(w.heap.size + 1 + 1), 2, none⟩ (.slice a2 E2.length c2)).cell? ⟨Y, 2, none⟩ = some (.int .i64 tN) := (World.cell?_of_block (w := w6) (a := ⟨Y, 2, none⟩) (Below.heap_setCell _ _ _ _ (show Y ≠ (w.heap.size + 1 + 1) by omega))).trans y2
            have z3 : (w6.setCell ⟨(w.heap.size + 1 + 1), 2, none⟩ (.slice a2 E2.length c2)).cell? ⟨P, fN, none⟩ = some (.int .i64 A) := (World.cell?_of_block (w := w6) (a := ⟨P, fN, none⟩) (Below.heap_setCell _ _ _ _ (show P ≠ (w.heap.size + 1 + 1) by omega))).trans y3
            have z4 : (w6.setCell ⟨(w.heap.size + 1 + 1), 2, none⟩ (.slice a2 E2.length c2)).cell? ⟨P, tN, none⟩ = some (.int .i64 Q) := (World.cell?_of_block (w := w6) (a := ⟨P, tN, none⟩) (Below.heap_setCell _ _ _ _ (show P ≠ (w.heap.size + 1 + 1) by omega))).trans y4
            replace hX6 := hidI hX6
            replace hS7 := hidI hS7
            replace hb7 := hidI hb7
            replace hP7 := hidI hP7
            replace hl7 := hidI hl7
            replace hrow6 := hidI hrow6
            replace hb6 := hidI hb6
            refine hK.out _ _ ?_ (fun hHeld => ?_)
            · try dsimp only
              ((repeat' apply And.intro) <;> assumption)
            clear hK
            try simp only [Act.put, List.setIfInBounds_toArray, List.set_cons_zero, List.set_cons_succ]
            refine take_at 18 115 (v := ?_) rfl (by kernel_rfl) (by kernel_rfl) (by kernel_rfl) (by kernel_rfl) hpan (Or.inl ⟨by rfl, ?_⟩) (by assumption) ?_
            rotate_left
            · intro w hSw; (try dsimp only at hSw); go_simp; with_reducible rfl
            simp only [Act.put, List.setIfInBounds_toArray, List.set_cons_zero, List.set_cons_succ]
            refine wpAnyH_ready (rs := [19]) (by kernel_rfl) (by simp) ?_
            refine AllReadyH.cons rfl (fun K hK => ?_) AllReadyH.nil
            rw [if_pos (by rfl)]
            go_simp
            replace y0 := z0
            replace y1 := z1
            replace y2 := z2
            replace y3 := z3
            replace y4 := z4
            refine hK.out _ _ ?_ (fun hHeld => ?_)
            · try dsimp only
              ((repeat' apply And.intro) <;> assumption)
            clear hK
            try simp only [Act.put, List.setIfInBounds_toArray, List.set_cons_zero, List.set_cons_succ]
            refine wpAnyH_done (by kernel_rfl) ?_ _
            refine hnorm _ _ ?_
            clear hnorm hpan
            repeat clear hHeld
            try simp only [Exit.then]
            have hst7 : Hid (∃ v', MSt (w6.setCell ⟨(w.heap.size + 1 + 1), 2, none⟩ (.slice a2 E2.length c2)) (w.heap.size + 1 + 1) (w.heap.size + 1 + 1) r (k : Int) v' (rnN pl es (j + 1))) := hidI ⟨_, by rw [hnx2.out]; exact hS7.out⟩
            clear hcall
            go_wp2
            go_roundg (n - (j + 1))
            case rel => exact ⟨j + 1, by have := hj.out; omega, by go_num, hst7, hb7, hP7, hl7.out⟩
            case measure => have := hj.out; omega
          · obtain rfl : j = n := by omega
            have hji : ¬ (j : Int) < (j : Int) := by omega
            have hEZ : E = ZE := by rw [hE, hZE1.out]
            rw [← hZS1.out] at hP6
            subst hEZ
            have hR0 : wr.heap[w.heap.size + 1]? = some (.cells #[.int .i64 0, .int .i64 0, .slice none 0 0] 28 (0, 0)) := by rw [hkb.out.block _ (by omega)]; exact hRk.out wA hbr1.out
            have hbq : Below w.heap.size w wr := hbr.out.trans (hkb.out.mono (by omega))
            have hfin := mst_fin (w := w) (w9 := wr) (X := (w.heap.size + 1 + 1)) (R := w.heap.size + 1) (base := (w.heap.size + 1 + 1)) (cap := cv) (r := r) (s' := ZS) (E := E) (b := true) (a := av) (by omega) (by omega) hbq hP6
            have hX9 := hP6.1
            have x0 := cell_of_heap hX9 0
            have x1 := cell_of_heap hX9 1
            have x2 := cell_of_heap hX9 2
            have y0 := cell_of_heap hR0 0
            have y1 := cell_of_heap hR0 1
            have y2 := cell_of_heap hR0 2
            have f2 := fun j => frozen_of_row wr (w.heap.size + 1) j _ _ hR0
            simp at x0 x1 x2 y0 y1 y2
            replace hfin := hidI hfin
            replace hR0 := hidI hR0
            replace hX9 := hidI hX9
            replace hP6 := hidI hP6
            replace hj := hidI hj
            replace hbq := hidI hbq
            replace hE := hidI hE
            replace hrow := hidI hrow
            clear hst2
            go_wp2
            (try simp only [Exit.inBlock, Exit.then])
            refine ret_cell2 (x := .bool true) rfl rfl rfl (set3 hR0.out _ _ _) Tryz.underlying28 sizeGraph ?_
            exact hfin.out
end Go.Proofs.YtecceaijdjnflaaGreat
