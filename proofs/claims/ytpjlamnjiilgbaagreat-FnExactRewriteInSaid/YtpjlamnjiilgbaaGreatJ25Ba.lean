import Derived.Deep.RegionHeld3
import Derived.Deep.LoopGhost
import Derived.Test.YtpjlamnjiilgbaaGreatJ8Ba
import Derived.Test.YtpjlamnjiilgbaaGreatJ14Ba
import Derived.Test.YtpjlamnjiilgbaaGreatJ15Ba
import Derived.Test.YtpjlamnjiilgbaaGreatJ9Ba
import Derived.Test.YtpjlamnjiilgbaaGreatJ10Ba
import Derived.Test.YtpjlamnjiilgbaaGreatJ20Ba
namespace Go.Proofs.YtpjlamnjiilgbaaGreat
open Go.RowKit
set_option linter.unusedVariables false
set_option linter.unusedSimpArgs false
theorem fst_map_at {F : List Ed} {i : Nat} (h : i < F.length) : (F.map (·.1)).take (i + 1) = (F.map (·.1)).take i ++ [(F.getD i e0).1] := by
 rw [List.take_add_one, List.getElem?_map, List.getElem?_eq_getElem h, List.getD_eq_getElem?_getD, List.getElem?_eq_getElem h]; rfl
set_option maxRecDepth 100000 in
set_option maxHeartbeats 3200000 in
theorem progCanO (w : World) (r s : Int) (v : Value) (es : List Ed) (h : ReadE w.heap.size w v es) (hl : es.length ≤ 10000000) :
 Calls Tryz.prog 155 #[.agg #[.int .i64 r, .int .i64 s, v]] w (IntsRet w (coL r s es (letsN r.toNat))) := by
 obtain ⟨a, cap, rfl, hnc⟩ := h.form
 obtain ⟨n, hn⟩ := exq es.length
 rw [← hn] at hl hnc ⊢
 rw [← hn] at h
 obtain ⟨w1, hw1⟩ := exq (w.alloc (.cells #[.int .i64 r, .int .i64 s, .slice a n cap] 26))
 have hb1 : Below w.heap.size w w1 := by rw [hw1]; exact (Below.refl _ _).alloc (Nat.le_refl _) _
 have hs1 : w.heap.size < w1.heap.size := by rw [hw1]; simp
 obtain ⟨g0, g1, g2⟩ := box3 hw1
 have hcf := folded_any w1 r s (.slice a n cap) es ((h.below hb1).mono hb1.size) (by omega)
 obtain ⟨C, hC⟩ := exq (coL r s es (letsN r.toNat))
 rw [← hC]
 have hno : isFo r s es = false → C = [] := fun hb => by rw [hC, coL, hb, if_neg (by decide)]
 have hyes : isFo r s es = true → ((foundA r es 0).map (·.1)).map (·.1) = C := fun hb => by rw [hC]; exact found_order hb
 have hfl : isFo r s es = true → (foundA r es 0).length ≤ 40 := fun hb => by
  have hg : isGr r s es = true := by unfold isFo at hb; rw [Bool.and_eq_true] at hb; exact hb.1
  have := isGr_lim hg
  have := (foundA_good hb (u := 0) (by omega)).length
  omega
 have hww := hidI hw1.symm
 replace hno := hidI hno
 replace hyes := hidI hyes
 replace hfl := hidI hfl
 replace hC := hidI hC
 replace hn := hidI hn
 replace h := hidI h
 replace hw1 := hidI hw1
 go_enter Tryz.func155, Tryz.ntmps155
 go_wp2_with fail
 rw [hww.out]
 refine hcf.mono ?_
 rintro e w2 (⟨hfo, bm, rfl, hbm1, hbm2, hm, hb2⟩ | ⟨hfo, rfl, hb2⟩)
 · clear hcf
   have hbq := hidI (hb1.trans (hb2.mono hb1.size))
   have p0 := below_cell g0 hb2 hs1
   have hsz2 := hb2.size
   clear g0 g1 g2 hb2
   have hgr : isGr r s es = true := by unfold isFo at hfo; rw [Bool.and_eq_true] at hfo; exact hfo.1
   have hlim := isGr_lim hgr
   obtain ⟨rN, rfl⟩ : ∃ z : Nat, r = (z : Int) := ⟨r.toNat, by omega⟩
   obtain ⟨sN, rfl⟩ : ∃ z : Nat, s = (z : Int) := ⟨s.toNat, by omega⟩
   have hsr := search_any w2 rN sN 0 bm es hfo hm hbm2 (by omega)
   have hCe := hyes.out hfo
   have hFl := hfl.out hfo
   obtain ⟨F, hF⟩ := exq ((foundA (rN : Int) es 0).map (·.1))
   rw [show (((0 : Nat) : Int)) = 0 from rfl, ← hF] at hsr
   rw [← hF] at hCe
   have hFn : F.length ≤ 40 := by rw [hF, List.length_map]; exact hFl
   replace hF := hidI hF
   replace hFl := hidI hFl
   replace hCe := hidI hCe
   replace hfo := hidI hfo
   replace hgr := hidI hgr
   replace hlim := hidI hlim
   replace hm := hidI hm
   go_wp2_with fail
   refine hsr.mono ?_
   rintro e w3 ⟨fv, rfl, hrd, hb3⟩
   clear hsr
   obtain ⟨fa, fc, rfl, hfc⟩ := hrd.form
   obtain ⟨N, hN⟩ := exq F.length
   have hrd2 : ReadE w3.heap.size w3 (.slice fa N fc) F := by rw [hN]; exact hrd
   have hbq3 := hidI (hbq.out.trans (hb3.mono hbq.out.size))
   rw [← hN] at hFn hfc ⊢
   replace hN := hidI hN
   replace hrd := hidI hrd2
   clear hrd2
   have hsz3 := hb3.size
   clear hb3
   have hst0 : Hid (OwnsI w3 w3.heap.size (.slice none 0 0) ((F.map (·.1)).take 0)) := hidI (World.ownsRow_nil _ _ _ _)
   go_wp2
   go_loopg [5, 20] N (fun g u i wr => ∃ k : Nat, k + g = N ∧ i = .int .i64 k ∧ Hid (OwnsI wr w3.heap.size u ((F.map (·.1)).take k)) ∧ Hid (Below w3.heap.size w3 wr))
   case atStart => exact ⟨0, by omega, rfl, hst0, hidI (Below.refl _ _)⟩
   case round =>
    clear hst0
    obtain ⟨k, hk, rfl, hst, hb⟩ := hrel
    have hsz := hb.out.size
    by_cases hlt : k < N
    · have hki : (k : Int) < (N : Int) := by omega
      have hjl : k < F.length := by have := hN.out; omega
      obtain ⟨b, off, hab, hBb, x0, x1, x2⟩ := ReadE.at3 (hrd.out.below hb.out) k hjl
      subst hab
      have hnx := fst_map_at hjl
      obtain ⟨f, hf⟩ := exq ((F.getD k e0).1)
      obtain ⟨l, hll⟩ := exq ((F.getD k e0).2.1)
      obtain ⟨t, ht⟩ := exq ((F.getD k e0).2.2)
      rw [← hf] at x0 hnx
      rw [← hll] at x1
      rw [← ht] at x2
      obtain ⟨L, hL⟩ := exq ((F.map (·.1)).take k)
      have hLl : L.length ≤ 1000 := by rw [hL, List.length_take]; omega
      rw [← hL] at hst hnx
      obtain ⟨w4, hw4⟩ := exq (wr.alloc (.cells #[.int .i64 f, .int .i64 l, .int .i64 t] 129))
      have hb4 : Below wr.heap.size wr w4 := by rw [hw4]; exact (Below.refl _ _).alloc (Nat.le_refl _) _
      have e0_ : w4.cell? ⟨wr.heap.size, 0, none⟩ = some (.int .i64 f) := by
       have := cell_of_heap (heap_alloc_new wr (.cells #[.int .i64 f, .int .i64 l, .int .i64 t] 129)) 0
       rw [hw4]; exact this
      have hown4 : OwnsI w4 w3.heap.size u5 L := by rw [hw4]; exact World.ownsRow.alloc hst.out _
      have hb34 := hidI (hb.out.trans (hb4.mono hsz))
      have hs4 := hb4.size
      replace hown4 := hidI hown4
      replace hf := hidI hf
      replace hll := hidI hll
      replace ht := hidI ht
      replace hL := hidI hL
      replace hk := hidI hk
      replace hst := hidI hst
      replace hnx := hidI hnx
      replace hb4 := hidI hb4
      go_upto_region 8 with fail
      rw [← hw4]
      replace hw4 := hidI hw4
      clear x0 x1 x2
      go_wp2_with (at_builtin; go_must (refine wpList_pushI rfl _ _ rfl w3.heap.size _ L _ rfl rfl (by exact hown4.out) (by omega) (by omega) ?_))
      intro v' w6 hown6 hb6
      have hst7 : Hid (OwnsI w6 w3.heap.size v' ((F.map (·.1)).take (k + 1))) := hidI (by rw [hnx.out]; exact hown6)
      have hb36 := hidI (hb34.out.trans hb6)
      clear hown6 hb6
      go_wp2
      go_roundg (N - (k + 1))
      case rel => exact ⟨k + 1, by have := hk.out; omega, by go_num, hst7, hb36⟩
      case measure => have := hk.out; omega
    · obtain rfl : k = N := by omega
      have hfull : (F.map (·.1)).take k = C := by rw [List.take_of_length_le (by rw [List.length_map]; have := hN.out; omega)]; exact hCe.out
      rw [hfull] at hst
      have hCl : C.length ≤ 1000 := by rw [← hCe.out, List.length_map]; have := hN.out; omega
      have hfin : IntsRet w C (.returned u5) wr := ⟨_, rfl, (OwnsI.row hst.out (by omega)).wide hbq3.out.size (Nat.le_refl _), hbq3.out.trans (hb.out.mono hbq3.out.size)⟩
      replace hfin := hidI hfin
      replace hfull := hidI hfull
      replace hk := hidI hk
      go_wp2
      go_ret
      exact hfin.out
 · clear hcf
   have hC0 := hno.out hfo
   have hfin : IntsRet w C (.returned (.slice none 0 0)) w2 := ⟨_, rfl, ⟨by rw [hC0]; simp, .inl ⟨rfl, hC0⟩⟩, hb1.trans (hb2.mono hb1.size)⟩
   replace hfin := hidI hfin
   replace hC0 := hidI hC0
   replace hfo := hidI hfo
   go_wp2
   go_ret
   exact hfin.out
theorem cg_ren (r s : Int) (es : List Ed) : cgS r s es = rnS r s es (cgL r s es) ∧ cgE r s es = rnE r s es (cgL r s es) := by
 unfold cgS cgE
 by_cases h : (cgL r s es).length = 0
 · have hf : okN r s es (cgL r s es) = false := by
    cases e : okN r s es (cgL r s es) with
    | false => rfl
    | true => exact absurd h (okN_iff.1 e).2.1
   rw [if_pos h, if_pos h, rnS, rnE, hf]
   exact ⟨rfl, rfl⟩
 · rw [if_neg h, if_neg h]; exact ⟨rfl, rfl⟩
set_option maxRecDepth 100000 in
set_option maxHeartbeats 6400000 in
theorem progCanG (w : World) (r s : Int) (v : Value) (es : List Ed) (h : ReadE w.heap.size w v es) (hl : es.length ≤ 10000000) :
 Calls Tryz.prog 124 #[.agg #[.int .i64 r, .int .i64 s, v]] w (LwGraph w r (cgS r s es) (cgE r s es)) := by
 obtain ⟨a, cap, rfl, hnc⟩ := h.form
 obtain ⟨n, hn⟩ := exq es.length
 rw [← hn] at hl hnc ⊢
 rw [← hn] at h
 obtain ⟨w1, hw1⟩ := exq ((w.alloc (.cells #[.int .i64 r, .int .i64 s, .slice a n cap] 26)).alloc (.cells #[.int .i64 0, .int .i64 0, .slice none 0 0] 26))
 have hb1 : Below w.heap.size w w1 := by rw [hw1]; exact ((Below.refl _ _).alloc (Nat.le_refl _) _).alloc (by simp) _
 have hs1 : w1.heap.size = w.heap.size + 1 + 1 := by rw [hw1]; simp
 have hg := heap_box w (.cells #[.int .i64 r, .int .i64 s, .slice a n cap] 26) (.cells #[.int .i64 0, .int .i64 0, .slice none 0 0] 26)
 have hR := heap_alloc_new (w.alloc (.cells #[.int .i64 r, .int .i64 s, .slice a n cap] 26)) (.cells #[.int .i64 0, .int .i64 0, .slice none 0 0] 26)
 rw [← hw1] at hg hR
 rw [show (w.alloc (.cells #[.int .i64 r, .int .i64 s, .slice a n cap] 26)).heap.size = w.heap.size + 1 by simp] at hR
 obtain ⟨wd, hwd⟩ := exq w1.drew
 have hbd : Below w1.heap.size w1 wd := by rw [hwd]; exact below_dn (Below.refl _ _) 1
 have g0 : wd.cell? ⟨w.heap.size, 0, none⟩ = some (.int .i64 r) := by rw [hwd]; simpa using cell_of_heap hg 0
 have g1 : wd.cell? ⟨w.heap.size, 1, none⟩ = some (.int .i64 s) := by rw [hwd]; simpa using cell_of_heap hg 1
 have g2 : wd.cell? ⟨w.heap.size, 2, none⟩ = some (.slice a n cap) := by rw [hwd]; simpa using cell_of_heap hg 2
 have hRd : Hid (wd.heap[w.heap.size + 1]? = some (.cells #[.int .i64 0, .int .i64 0, .slice none 0 0] 26 (0, 0))) := hidI (by rw [hwd]; exact hR)
 have hb1d := hidI (hb1.trans (hbd.mono hb1.size))
 have hsw : w.heap.size < wd.heap.size := by have := hbd.size; omega
 have hsw1 : w.heap.size + 1 < wd.heap.size := by have := hbd.size; omega
 have hbwd : Below wd.heap.size wd wd := Below.refl _ _
 have hco := fun (W : World) (hr : ReadE W.heap.size W (.slice a n cap) es) => progCanO W r s (.slice a n cap) es hr (by omega)
 have hrn := fun (W : World) (ov : Value) (hr : ReadE W.heap.size W (.slice a n cap) es) (ho : ReadI W.heap.size W ov (cgL r s es)) => progRenum W r s (.slice a n cap) ov es (cgL r s es) hr (by omega) ho (by have := cgL_length r s es; omega)
 rw [← (cg_ren r s es).1, ← (cg_ren r s es).2] at hrn
 change ∀ W, _ → Calls _ _ _ W (IntsRet W (cgL r s es)) at hco
 obtain ⟨ZL, hZL⟩ := exq (cgL r s es)
 obtain ⟨ZS, hZS⟩ := exq (cgS r s es)
 obtain ⟨ZE, hZE⟩ := exq (cgE r s es)
 rw [← hZL] at hco hrn
 rw [← hZS, ← hZE] at hrn ⊢
 have hww := hidI hw1.symm
 have hwdw := hidI hwd.symm
 replace hco := hidI hco
 replace hrn := hidI hrn
 replace hZL := hidI hZL
 replace hZS := hidI hZS
 replace hZE := hidI hZE
 replace hn := hidI hn
 replace h := hidI h
 replace hg := hidI hg
 replace hR := hidI hR
 replace hw1 := hidI hw1
 replace hwd := hidI hwd
 replace hs1 := hidI hs1
 clear hb1 hbd
 go_enter Tryz.func124, Tryz.ntmps124
 go_upto_region 1 with fail
 rw [hww.out]
 refine hideQ (fun _ _ d _ _ h => by cases d <;> exact h) (fun Q' hnorm hpan => ?_)
 refine wp_region_held_drew (S := (fun W0 => W0.cell? ⟨w.heap.size, 0, none⟩ = some (.int .i64 r) ∧ W0.cell? ⟨w.heap.size, 1, none⟩ = some (.int .i64 s) ∧ W0.cell? ⟨w.heap.size, 2, none⟩ = some (.slice a n cap))) (by kernel_rfl) ?_ (fun hHeld => ?_)
 · try dsimp only
   rw [hwdw.out]
   ((repeat' apply And.intro) <;> assumption)
 rw [hwdw.out] at hHeld ⊢
 refine tk 0 6 ?_
 refine tk 1 7 ?_
 refine wpAnyH_ready (rs := [2, 7]) (by kernel_rfl) (by simp) ?_
 refine AllReadyH.cons rfl (fun K hK => ?_) ?_
 ·
  rw [if_pos (by rfl)]
  go_simp
  refine (hco.out wd ((h.out.below (hb1d.out.trans (hbwd.mono hb1d.out.size))).mono (by have := hbwd.size; have := hb1d.out.size; omega))).mono ?_
  rintro e wdx2 ⟨ov, rfl, hord0, hbc⟩
  have hbbwdx2 : Below wd.heap.size wd wdx2 := hbc
  have hszwdx2 := hbbwdx2.size
  have hbwdx2 : Below wd.heap.size wd wdx2 := hbwd.trans (hbbwdx2.mono hbwd.size)
  have k0wdx2 := below_cell g0 hbwdx2 hsw
  have k1wdx2 := below_cell g1 hbwdx2 hsw
  have k2wdx2 := below_cell g2 hbwdx2 hsw
  have hord := hord0.read
  clear hord0 hbc
  refine hK.out _ _ ?_ (fun hHeld => ?_)
  · try dsimp only
    ((repeat' apply And.intro) <;> assumption)
  clear hK
  try simp only [Act.put, lyA, lyB, lyC]
  refine wpAnyH_ready (rs := [3, 7]) (by kernel_rfl) (by simp) ?_
  refine AllReadyH.cons rfl (fun K hK => ?_) ?_
  ·
   rw [if_pos (by rfl)]
   go_simp
   refine (hrn.out wdx2 ov ((h.out.below (hb1d.out.trans (hbwdx2.mono hb1d.out.size))).mono (by have := hbwdx2.size; have := hb1d.out.size; omega)) hord).mono ?_
   rintro e wdx2x3 ⟨ca, cc, rfl, hrow0, hbc⟩
   have hbbwdx2x3 : Below wdx2.heap.size wdx2 wdx2x3 := hbc
   have hszwdx2x3 := hbbwdx2x3.size
   have hbwdx2x3 : Below wd.heap.size wd wdx2x3 := hbwdx2.trans (hbbwdx2x3.mono hbwdx2.size)
   have k0wdx2x3 := below_cell g0 hbwdx2x3 hsw
   have k1wdx2x3 := below_cell g1 hbwdx2x3 hsw
   have k2wdx2x3 := below_cell g2 hbwdx2x3 hsw
   obtain ⟨glo, hglo⟩ := exq wdx2.heap.size
   obtain ⟨ghi, hghi0⟩ := exq wdx2x3.heap.size
   have hrow := hrow0
   rw [← hglo, ← hghi0] at hrow
   have hghi : ghi ≤ wdx2x3.heap.size := by omega
   have hglo0 : wd.heap.size ≤ glo := by rw [hglo]; exact hbwdx2.size
   clear hrow0 hbc
   refine hK.out _ _ ?_ (fun hHeld => ?_)
   · try dsimp only
     ((repeat' apply And.intro) <;> assumption)
   clear hK
   try simp only [Act.put, lyA, lyB, lyC]
   refine tk 4 5 ?_
   refine tk 5 10 ?_
   refine tk 6 11 ?_
   refine rd 7 (fun K hK => ?_)
   rw [if_pos (by rfl)]
   go_simp
   obtain ⟨wdx2x3x7, hwdx2x3x7⟩ := exq (wdx2x3.alloc (.cells #[.int .i64 0, .int .i64 0, .slice none 0 0] 26))
   have hbbwdx2x3x7 : Below wdx2x3.heap.size wdx2x3 wdx2x3x7 := by rw [hwdx2x3x7]; exact (Below.refl _ _).alloc (Nat.le_refl _) _
   have hszwdx2x3x7 := hbbwdx2x3x7.size
   have hbwdx2x3x7 : Below wd.heap.size wd wdx2x3x7 := hbwdx2x3.trans (hbbwdx2x3x7.mono hbwdx2x3.size)
   have k0wdx2x3x7 := below_cell g0 hbwdx2x3x7 hsw
   have k1wdx2x3x7 := below_cell g1 hbwdx2x3x7 hsw
   have k2wdx2x3x7 := below_cell g2 hbwdx2x3x7 hsw
   obtain ⟨Bx, hBx⟩ := exq wdx2x3.heap.size
   have hbox : wdx2x3x7.heap[Bx]? = some (.cells #[.int .i64 0, .int .i64 0, .slice none 0 0] 26 (0, 0)) := by rw [hwdx2x3x7, hBx]; exact heap_alloc_new _ _
   have hBl : Bx < wdx2x3x7.heap.size := (Array.getElem?_eq_some_iff.1 hbox).1
   have hBx0 : wd.heap.size ≤ Bx := by rw [hBx]; exact hbwdx2x3.size
   replace hrow := RowS.below hrow hbbwdx2x3x7 hghi
   have hghi2 : ghi ≤ Bx := by omega
   rw [← hwdx2x3x7, ← hBx]
   replace hwdx2x3x7 := hidI hwdx2x3x7
   replace hBx := hidI hBx
   refine hK.out _ _ ?_ (fun hHeld => ?_)
   · try dsimp only
     ((repeat' apply And.intro) <;> assumption)
   clear hK
   try simp only [Act.put, lyA, lyB, lyC]
   obtain ⟨c0, c1, c2⟩ := cell3 hbox
   have fb := fun j => frozen_of_row wdx2x3x7 Bx j _ _ hbox
   simp at c0 c1 c2
   refine rd 8 (fun K hK => ?_)
   rw [if_pos (by rfl)]
   go_simp
   obtain ⟨w8, hw8⟩ := exq (((wdx2x3x7.setCell ⟨Bx, 0, none⟩ (.int .i64 r)).setCell ⟨Bx, 1, none⟩ (.int .i64 ZS)).setCell ⟨Bx, 2, none⟩ (.slice ca ZE.length cc))
   rw [← hw8]
   have hB8 : w8.heap[Bx]? = some (.cells #[.int .i64 r, .int .i64 ZS, .slice ca ZE.length cc] 26 (0, 0)) := by rw [hw8]; exact set3 hbox _ _ _
   have hb8 : Below wd.heap.size wd w8 := by rw [hw8]; exact below_set3 hbwdx2x3x7 hBx0
   have hs8 : w8.heap.size = wdx2x3x7.heap.size := by rw [hw8]; exact size_set3
   have hrow8 : RowS 72 3 w8 glo ghi (.slice ca ZE.length cc) ZE.length (flatE ZE) := by rw [hw8]; exact RowS.set3_ hrow (by omega)
   have k08 := below_cell g0 hb8 hsw
   have k18 := below_cell g1 hb8 hsw
   have k28 := below_cell g2 hb8 hsw
   replace hw8 := hidI hw8
   refine hK.out _ _ ?_ (fun hHeld => ?_)
   · try dsimp only
     ((repeat' apply And.intro) <;> assumption)
   clear hK
   try simp only [Act.put, lyA, lyB, lyC]
   refine tk 9 4 ?_
   refine wpAnyH_done (by kernel_rfl) ?_ _
   refine hnorm _ _ ?_
   clear hnorm hpan
   repeat clear hHeld
   try simp only [Exit.then]
   have hR8 : w8.heap[w.heap.size + 1]? = some (.cells #[.int .i64 0, .int .i64 0, .slice none 0 0] 26 (0, 0)) := (hb8.block _ (by omega)).trans hRd.out
   obtain ⟨b0, b1, b2⟩ := cell3 hB8
   obtain ⟨y0, y1, y2⟩ := cell3 hR8
   have f2 := fun j => frozen_of_row w8 (w.heap.size + 1) j _ _ hR8
   simp at y0 y1 y2 b0 b1 b2
   have hfin : LwGraph w r ZS ZE (.returned (.agg #[.int .i64 r, .int .i64 ZS, .slice ca ZE.length cc])) (((w8.setCell ⟨w.heap.size + 1, 0, none⟩ (.int .i64 r)).setCell ⟨w.heap.size + 1, 1, none⟩ (.int .i64 ZS)).setCell ⟨w.heap.size + 1, 2, none⟩ (.slice ca ZE.length cc)) := by
    refine ⟨ca, cc, rfl, (RowS.set3_ hrow8 (.inl (by omega))).wide (by have := hb1d.out.size; omega) (by rw [size_set3]; omega), below_set3 (hb1d.out.trans (hb8.mono hb1d.out.size)) (by omega)⟩
   have hset := set3 hR8 (.int .i64 r) (.int .i64 ZS) (.slice ca ZE.length cc)
   replace hfin := hidI hfin
   replace hset := hidI hset
   replace hR8 := hidI hR8
   replace hB8 := hidI hB8
   replace hbox := hidI hbox
   replace hrow := hidI hrow
   replace hrow8 := hidI hrow8
   replace hb8 := hidI hb8
   replace hs8 := hidI hs8
   clear c0 c1 c2 fb
   go_wp2
   (try simp only [Exit.inBlock, Exit.then])
   refine ret_cell rfl (g := w.heap.size + 1) rfl hset.out Tryz.underlying26 sizeGraph ?_
   exact hfin.out
  refine AllReadyH.cons rfl (fun K hK => ?_) AllReadyH.nil
  rw [if_pos (by rfl)]
  go_simp
  obtain ⟨wdx2x7, hwdx2x7⟩ := exq (wdx2.alloc (.cells #[.int .i64 0, .int .i64 0, .slice none 0 0] 26))
  have hbbwdx2x7 : Below wdx2.heap.size wdx2 wdx2x7 := by rw [hwdx2x7]; exact (Below.refl _ _).alloc (Nat.le_refl _) _
  have hszwdx2x7 := hbbwdx2x7.size
  have hbwdx2x7 : Below wd.heap.size wd wdx2x7 := hbwdx2.trans (hbbwdx2x7.mono hbwdx2.size)
  have k0wdx2x7 := below_cell g0 hbwdx2x7 hsw
  have k1wdx2x7 := below_cell g1 hbwdx2x7 hsw
  have k2wdx2x7 := below_cell g2 hbwdx2x7 hsw
  obtain ⟨Bx, hBx⟩ := exq wdx2.heap.size
  have hbox : wdx2x7.heap[Bx]? = some (.cells #[.int .i64 0, .int .i64 0, .slice none 0 0] 26 (0, 0)) := by rw [hwdx2x7, hBx]; exact heap_alloc_new _ _
  have hBl : Bx < wdx2x7.heap.size := (Array.getElem?_eq_some_iff.1 hbox).1
  have hBx0 : wd.heap.size ≤ Bx := by rw [hBx]; exact hbwdx2.size
  replace hord := (hord.below hbbwdx2x7).mono hszwdx2x7
  rw [← hwdx2x7, ← hBx]
  replace hwdx2x7 := hidI hwdx2x7
  replace hBx := hidI hBx
  refine hK.out _ _ ?_ (fun hHeld => ?_)
  · try dsimp only
    ((repeat' apply And.intro) <;> assumption)
  clear hK
  try simp only [Act.put, lyA, lyB, lyC]
  refine rd 3 (fun K hK => ?_)
  rw [if_pos (by rfl)]
  go_simp
  refine (hrn.out wdx2x7 ov ((h.out.below (hb1d.out.trans (hbwdx2x7.mono hb1d.out.size))).mono (by have := hbwdx2x7.size; have := hb1d.out.size; omega)) hord).mono ?_
  rintro e wdx2x7x3 ⟨ca, cc, rfl, hrow0, hbc⟩
  have hbbwdx2x7x3 : Below wdx2x7.heap.size wdx2x7 wdx2x7x3 := hbc
  have hszwdx2x7x3 := hbbwdx2x7x3.size
  have hbwdx2x7x3 : Below wd.heap.size wd wdx2x7x3 := hbwdx2x7.trans (hbbwdx2x7x3.mono hbwdx2x7.size)
  have k0wdx2x7x3 := below_cell g0 hbwdx2x7x3 hsw
  have k1wdx2x7x3 := below_cell g1 hbwdx2x7x3 hsw
  have k2wdx2x7x3 := below_cell g2 hbwdx2x7x3 hsw
  obtain ⟨glo, hglo⟩ := exq wdx2x7.heap.size
  obtain ⟨ghi, hghi0⟩ := exq wdx2x7x3.heap.size
  have hrow := hrow0
  rw [← hglo, ← hghi0] at hrow
  have hghi : ghi ≤ wdx2x7x3.heap.size := by omega
  have hglo0 : wd.heap.size ≤ glo := by rw [hglo]; exact hbwdx2x7.size
  clear hrow0 hbc
  replace hbox := (hbbwdx2x7x3.block Bx hBl).trans hbox
  have hghi2 : Bx < glo := by omega
  replace hBl : Bx < wdx2x7x3.heap.size := by omega
  refine hK.out _ _ ?_ (fun hHeld => ?_)
  · try dsimp only
    ((repeat' apply And.intro) <;> assumption)
  clear hK
  try simp only [Act.put, lyA, lyB, lyC]
  refine tk 4 5 ?_
  refine tk 5 10 ?_
  refine tk 6 11 ?_
  obtain ⟨c0, c1, c2⟩ := cell3 hbox
  have fb := fun j => frozen_of_row wdx2x7x3 Bx j _ _ hbox
  simp at c0 c1 c2
  refine rd 8 (fun K hK => ?_)
  rw [if_pos (by rfl)]
  go_simp
  obtain ⟨w8, hw8⟩ := exq (((wdx2x7x3.setCell ⟨Bx, 0, none⟩ (.int .i64 r)).setCell ⟨Bx, 1, none⟩ (.int .i64 ZS)).setCell ⟨Bx, 2, none⟩ (.slice ca ZE.length cc))
  rw [← hw8]
  have hB8 : w8.heap[Bx]? = some (.cells #[.int .i64 r, .int .i64 ZS, .slice ca ZE.length cc] 26 (0, 0)) := by rw [hw8]; exact set3 hbox _ _ _
  have hb8 : Below wd.heap.size wd w8 := by rw [hw8]; exact below_set3 hbwdx2x7x3 hBx0
  have hs8 : w8.heap.size = wdx2x7x3.heap.size := by rw [hw8]; exact size_set3
  have hrow8 : RowS 72 3 w8 glo ghi (.slice ca ZE.length cc) ZE.length (flatE ZE) := by rw [hw8]; exact RowS.set3_ hrow (by omega)
  have k08 := below_cell g0 hb8 hsw
  have k18 := below_cell g1 hb8 hsw
  have k28 := below_cell g2 hb8 hsw
  replace hw8 := hidI hw8
  refine hK.out _ _ ?_ (fun hHeld => ?_)
  · try dsimp only
    ((repeat' apply And.intro) <;> assumption)
  clear hK
  try simp only [Act.put, lyA, lyB, lyC]
  refine tk 9 4 ?_
  refine wpAnyH_done (by kernel_rfl) ?_ _
  refine hnorm _ _ ?_
  clear hnorm hpan
  repeat clear hHeld
  try simp only [Exit.then]
  have hR8 : w8.heap[w.heap.size + 1]? = some (.cells #[.int .i64 0, .int .i64 0, .slice none 0 0] 26 (0, 0)) := (hb8.block _ (by omega)).trans hRd.out
  obtain ⟨b0, b1, b2⟩ := cell3 hB8
  obtain ⟨y0, y1, y2⟩ := cell3 hR8
  have f2 := fun j => frozen_of_row w8 (w.heap.size + 1) j _ _ hR8
  simp at y0 y1 y2 b0 b1 b2
  have hfin : LwGraph w r ZS ZE (.returned (.agg #[.int .i64 r, .int .i64 ZS, .slice ca ZE.length cc])) (((w8.setCell ⟨w.heap.size + 1, 0, none⟩ (.int .i64 r)).setCell ⟨w.heap.size + 1, 1, none⟩ (.int .i64 ZS)).setCell ⟨w.heap.size + 1, 2, none⟩ (.slice ca ZE.length cc)) := by
   refine ⟨ca, cc, rfl, (RowS.set3_ hrow8 (.inl (by omega))).wide (by have := hb1d.out.size; omega) (by rw [size_set3]; omega), below_set3 (hb1d.out.trans (hb8.mono hb1d.out.size)) (by omega)⟩
  have hset := set3 hR8 (.int .i64 r) (.int .i64 ZS) (.slice ca ZE.length cc)
  replace hfin := hidI hfin
  replace hset := hidI hset
  replace hR8 := hidI hR8
  replace hB8 := hidI hB8
  replace hbox := hidI hbox
  replace hrow := hidI hrow
  replace hrow8 := hidI hrow8
  replace hb8 := hidI hb8
  replace hs8 := hidI hs8
  clear c0 c1 c2 fb
  go_wp2
  (try simp only [Exit.inBlock, Exit.then])
  refine ret_cell rfl (g := w.heap.size + 1) rfl hset.out Tryz.underlying26 sizeGraph ?_
  exact hfin.out
 refine AllReadyH.cons rfl (fun K hK => ?_) AllReadyH.nil
 rw [if_pos (by rfl)]
 go_simp
 obtain ⟨wdx7, hwdx7⟩ := exq (wd.alloc (.cells #[.int .i64 0, .int .i64 0, .slice none 0 0] 26))
 have hbbwdx7 : Below wd.heap.size wd wdx7 := by rw [hwdx7]; exact (Below.refl _ _).alloc (Nat.le_refl _) _
 have hszwdx7 := hbbwdx7.size
 have hbwdx7 : Below wd.heap.size wd wdx7 := hbwd.trans (hbbwdx7.mono hbwd.size)
 have k0wdx7 := below_cell g0 hbwdx7 hsw
 have k1wdx7 := below_cell g1 hbwdx7 hsw
 have k2wdx7 := below_cell g2 hbwdx7 hsw
 obtain ⟨Bx, hBx⟩ := exq wd.heap.size
 have hbox : wdx7.heap[Bx]? = some (.cells #[.int .i64 0, .int .i64 0, .slice none 0 0] 26 (0, 0)) := by rw [hwdx7, hBx]; exact heap_alloc_new _ _
 have hBl : Bx < wdx7.heap.size := (Array.getElem?_eq_some_iff.1 hbox).1
 have hBx0 : wd.heap.size ≤ Bx := by rw [hBx]; exact hbwd.size
 rw [← hwdx7, ← hBx]
 replace hwdx7 := hidI hwdx7
 replace hBx := hidI hBx
 refine hK.out _ _ ?_ (fun hHeld => ?_)
 · try dsimp only
   ((repeat' apply And.intro) <;> assumption)
 clear hK
 try simp only [Act.put, lyA, lyB, lyC]
 refine rd 2 (fun K hK => ?_)
 rw [if_pos (by rfl)]
 go_simp
 refine (hco.out wdx7 ((h.out.below (hb1d.out.trans (hbwdx7.mono hb1d.out.size))).mono (by have := hbwdx7.size; have := hb1d.out.size; omega))).mono ?_
 rintro e wdx7x2 ⟨ov, rfl, hord0, hbc⟩
 have hbbwdx7x2 : Below wdx7.heap.size wdx7 wdx7x2 := hbc
 have hszwdx7x2 := hbbwdx7x2.size
 have hbwdx7x2 : Below wd.heap.size wd wdx7x2 := hbwdx7.trans (hbbwdx7x2.mono hbwdx7.size)
 have k0wdx7x2 := below_cell g0 hbwdx7x2 hsw
 have k1wdx7x2 := below_cell g1 hbwdx7x2 hsw
 have k2wdx7x2 := below_cell g2 hbwdx7x2 hsw
 have hord := hord0.read
 clear hord0 hbc
 replace hbox := (hbbwdx7x2.block Bx hBl).trans hbox
 replace hBl : Bx < wdx7x2.heap.size := by omega
 refine hK.out _ _ ?_ (fun hHeld => ?_)
 · try dsimp only
   ((repeat' apply And.intro) <;> assumption)
 clear hK
 try simp only [Act.put, lyA, lyB, lyC]
 refine rd 3 (fun K hK => ?_)
 rw [if_pos (by rfl)]
 go_simp
 refine (hrn.out wdx7x2 ov ((h.out.below (hb1d.out.trans (hbwdx7x2.mono hb1d.out.size))).mono (by have := hbwdx7x2.size; have := hb1d.out.size; omega)) hord).mono ?_
 rintro e wdx7x2x3 ⟨ca, cc, rfl, hrow0, hbc⟩
 have hbbwdx7x2x3 : Below wdx7x2.heap.size wdx7x2 wdx7x2x3 := hbc
 have hszwdx7x2x3 := hbbwdx7x2x3.size
 have hbwdx7x2x3 : Below wd.heap.size wd wdx7x2x3 := hbwdx7x2.trans (hbbwdx7x2x3.mono hbwdx7x2.size)
 have k0wdx7x2x3 := below_cell g0 hbwdx7x2x3 hsw
 have k1wdx7x2x3 := below_cell g1 hbwdx7x2x3 hsw
 have k2wdx7x2x3 := below_cell g2 hbwdx7x2x3 hsw
 obtain ⟨glo, hglo⟩ := exq wdx7x2.heap.size
 obtain ⟨ghi, hghi0⟩ := exq wdx7x2x3.heap.size
 have hrow := hrow0
 rw [← hglo, ← hghi0] at hrow
 have hghi : ghi ≤ wdx7x2x3.heap.size := by omega
 have hglo0 : wd.heap.size ≤ glo := by rw [hglo]; exact hbwdx7x2.size
 clear hrow0 hbc
 replace hbox := (hbbwdx7x2x3.block Bx hBl).trans hbox
 have hghi2 : Bx < glo := by omega
 replace hBl : Bx < wdx7x2x3.heap.size := by omega
 refine hK.out _ _ ?_ (fun hHeld => ?_)
 · try dsimp only
   ((repeat' apply And.intro) <;> assumption)
 clear hK
 try simp only [Act.put, lyA, lyB, lyC]
 refine tk 4 5 ?_
 refine tk 5 10 ?_
 refine tk 6 11 ?_
 obtain ⟨c0, c1, c2⟩ := cell3 hbox
 have fb := fun j => frozen_of_row wdx7x2x3 Bx j _ _ hbox
 simp at c0 c1 c2
 refine rd 8 (fun K hK => ?_)
 rw [if_pos (by rfl)]
 go_simp
 obtain ⟨w8, hw8⟩ := exq (((wdx7x2x3.setCell ⟨Bx, 0, none⟩ (.int .i64 r)).setCell ⟨Bx, 1, none⟩ (.int .i64 ZS)).setCell ⟨Bx, 2, none⟩ (.slice ca ZE.length cc))
 rw [← hw8]
 have hB8 : w8.heap[Bx]? = some (.cells #[.int .i64 r, .int .i64 ZS, .slice ca ZE.length cc] 26 (0, 0)) := by rw [hw8]; exact set3 hbox _ _ _
 have hb8 : Below wd.heap.size wd w8 := by rw [hw8]; exact below_set3 hbwdx7x2x3 hBx0
 have hs8 : w8.heap.size = wdx7x2x3.heap.size := by rw [hw8]; exact size_set3
 have hrow8 : RowS 72 3 w8 glo ghi (.slice ca ZE.length cc) ZE.length (flatE ZE) := by rw [hw8]; exact RowS.set3_ hrow (by omega)
 have k08 := below_cell g0 hb8 hsw
 have k18 := below_cell g1 hb8 hsw
 have k28 := below_cell g2 hb8 hsw
 replace hw8 := hidI hw8
 refine hK.out _ _ ?_ (fun hHeld => ?_)
 · try dsimp only
   ((repeat' apply And.intro) <;> assumption)
 clear hK
 try simp only [Act.put, lyA, lyB, lyC]
 refine tk 9 4 ?_
 refine wpAnyH_done (by kernel_rfl) ?_ _
 refine hnorm _ _ ?_
 clear hnorm hpan
 repeat clear hHeld
 try simp only [Exit.then]
 have hR8 : w8.heap[w.heap.size + 1]? = some (.cells #[.int .i64 0, .int .i64 0, .slice none 0 0] 26 (0, 0)) := (hb8.block _ (by omega)).trans hRd.out
 obtain ⟨b0, b1, b2⟩ := cell3 hB8
 obtain ⟨y0, y1, y2⟩ := cell3 hR8
 have f2 := fun j => frozen_of_row w8 (w.heap.size + 1) j _ _ hR8
 simp at y0 y1 y2 b0 b1 b2
 have hfin : LwGraph w r ZS ZE (.returned (.agg #[.int .i64 r, .int .i64 ZS, .slice ca ZE.length cc])) (((w8.setCell ⟨w.heap.size + 1, 0, none⟩ (.int .i64 r)).setCell ⟨w.heap.size + 1, 1, none⟩ (.int .i64 ZS)).setCell ⟨w.heap.size + 1, 2, none⟩ (.slice ca ZE.length cc)) := by
  refine ⟨ca, cc, rfl, (RowS.set3_ hrow8 (.inl (by omega))).wide (by have := hb1d.out.size; omega) (by rw [size_set3]; omega), below_set3 (hb1d.out.trans (hb8.mono hb1d.out.size)) (by omega)⟩
 have hset := set3 hR8 (.int .i64 r) (.int .i64 ZS) (.slice ca ZE.length cc)
 replace hfin := hidI hfin
 replace hset := hidI hset
 replace hR8 := hidI hR8
 replace hB8 := hidI hB8
 replace hbox := hidI hbox
 replace hrow := hidI hrow
 replace hrow8 := hidI hrow8
 replace hb8 := hidI hb8
 replace hs8 := hidI hs8
 clear c0 c1 c2 fb
 go_wp2
 (try simp only [Exit.inBlock, Exit.then])
 refine ret_cell rfl (g := w.heap.size + 1) rfl hset.out Tryz.underlying26 sizeGraph ?_
 exact hfin.out
end Go.Proofs.YtpjlamnjiilgbaaGreat
