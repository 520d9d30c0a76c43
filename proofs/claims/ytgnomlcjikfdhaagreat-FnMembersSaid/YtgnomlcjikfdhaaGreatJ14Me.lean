import Derived.Deep.Cut
import Derived.Test.YtgnomlcjikfdhaaGreatJ12Me
import Derived.Test.YtgnomlcjikfdhaaGreatJ13Me
import Derived.Test.YtgnomlcjikfdhaaGreatJ5Me
import Derived.Test.YtgnomlcjikfdhaaGreatJ2Me
import Derived.Test.YtgnomlcjikfdhaaGreatJ9Me
namespace Go.Proofs.YtgnomlcjikfdhaaGreat
open Go.RowKit
set_option linter.unusedVariables false
set_option linter.unusedSimpArgs false
def zt (s u : Int) (i : Nat) : Int := if i = 0 then u else s + i - 1
def LZ (s v : Int) (n i : Nat) : Int := if i + 1 < n then s + i else v
def DN (s u v : Int) (wd : List Int) (i : Nat) : Ed := eB (zt s u i) (wd.getD i 0) (LZ s v wd.length i)
def gJ (s u v : Int) (wd : List Int) (k : Nat) : List Ed := (List.range k).map (DN s u v wd)
theorem nS (s u v : Int) (wd : List Int) (k : Nat) : gJ s u v wd (k + 1) = gJ s u v wd k ++ [DN s u v wd k] := by unfold gJ; rw [List.range_succ, List.map_append]; rfl
theorem uw (s u v : Int) (wd : List Int) (k : Nat) : (gJ s u v wd k).length = k := by simp [gJ]
theorem BG (s u : Int) (i : Nat) : zt s u (i + 1) = s + i := by unfold zt; rw [if_neg (by omega)]; push_cast; omega
theorem Dv {s v : Int} {n i : Nat} (h : i + 1 < n) : LZ s v n i = s + i := if_pos h
theorem BJ {s v : Int} {n i : Nat} (h : ¬ i + 1 < n) : LZ s v n i = v := if_neg h
def xG (r s : Int) (es : List Ed) (u : Int) (wd : List Int) (v : Int) : Bool :=
 aK r s es && decide (0 ≤ u ∧ u < s) && decide (0 ≤ v ∧ v < s) && jU r wd && decide (wd.length ≠ 0) && decide (s + wd.length - 1 ≤ 40) && decide (es.length + wd.length ≤ 120)
def rY (r s : Int) (es : List Ed) (u : Int) (wd : List Int) (v : Int) : Int := if xG r s es u wd v = true then s + wd.length - 1 else s
def qw (r s : Int) (es : List Ed) (u : Int) (wd : List Int) (v : Int) : List Ed := if xG r s es u wd v = true then dD es (gJ s u v wd wd.length) else es
theorem KU {r s : Int} {es : List Ed} {u : Int} {wd : List Int} {v : Int} (h : xG r s es u wd v = true) : aK r s es = true ∧ (0 ≤ u ∧ u < s) ∧ (0 ≤ v ∧ v < s) ∧ jU r wd = true ∧ wd.length ≠ 0 ∧ s + wd.length - 1 ≤ 40 ∧ es.length + wd.length ≤ 120 ∧ wd.length ≤ 24 ∧ 1 ≤ r ∧ r ≤ 3 ∧ 1 ≤ s ∧ s ≤ 40 := by
 unfold xG at h; simp only [Bool.and_eq_true, decide_eq_true_eq] at h; obtain ⟨⟨⟨⟨⟨⟨h1, h2⟩, h3⟩, h4⟩, h5⟩, h6⟩, h7⟩ := h; have hw := h4; unfold jU at hw; rw [decide_eq_true_eq] at hw; obtain ⟨_, g1, g2, g3, g4, _⟩ := dN.1 h1; exact ⟨h1, h2, h3, h4, h5, h6, h7, hw.2.2.2, g1, g2, g3, g4⟩
theorem KZ {r : Int} {wd : List Int} (h : jU r wd = true) (hr : 1 ≤ r ∧ r ≤ 3) {i : Nat} (hi : i < wd.length) : wd.getD i 0 ≠ 0 ∧ -3 ≤ wd.getD i 0 ∧ wd.getD i 0 ≤ 3 := by
 unfold jU at h; rw [decide_eq_true_eq] at h; have := h.1 i hi; unfold nO at this; obtain ⟨h1, h2, h3, _⟩ := this; have hn : ng r = -r := pJ (by omega) (by omega)
 exact ⟨h1, by omega, by omega⟩
theorem Dh (r s : Int) (es : List Ed) (u : Int) (wd : List Int) (v : Int) : (qw r s es u wd v).length ≤ es.length + wd.length := by
 unfold qw; split
 · have := tq (gJ s u v wd wd.length) es
   rw [uw] at this; exact this
 · omega
theorem jC.set {B G j : Nat} {a b : World} {x : Value} (h : jC B G a b) : jC B G a (b.setCell ⟨G, j, none⟩ x) :=
 ⟨h.1, h.2.1, h.2.2.1, by simpa [World.setCell] using h.2.2.2.1, fun k hk hne => by rw [Below.heap_setCell _ _ _ _ hne]; exact h.2.2.2.2 k hk hne⟩
theorem BO.sized {w : World} {G A base : Nat} {r s y : Int} {v : Value} {es : List Ed} (h : BO w G A base r s y v es) (s' : Int) : BO (w.setCell ⟨G, 1, none⟩ (.int .i64 s')) G A base r s' y v es := by
 obtain ⟨h1, h2, h3, h4, h5, h6⟩ := h; have hne : A ≠ G := by omega
 refine ⟨?_, by rw [Below.heap_setCell _ _ _ _ hne]; exact h2, bG.other h3 (fun k hk => Below.heap_setCell _ _ _ _ (by rintro rfl; exact h4 hk)), h4, h5, ⟨h6.1, h6.2.1, by simpa [World.setCell] using h6.2.2⟩⟩
 have := heap_setCell_same w G 1 _ _ (.int .i64 s') h1; simpa using this
set_option maxRecDepth 100000 in
set_option maxHeartbeats 6400000 in
theorem CZ (w : World) (r s u v : Int) (va vw : Value) (es : List Ed) (wd : List Int) (h : ay w.heap.size w va es) (hs : -9223372036854775808 ≤ s ∧ s ≤ 9223372036854775807) (hl : es.length ≤ 10000000) (hw : bD w.heap.size w vw wd) (hwl : wd.length ≤ 10000000) :
 Calls Tryz.prog 176 #[.agg #[.int .i64 r, .int .i64 s, va], .int .i64 u, vw, .int .i64 v] w (aS w r (rY r s es u wd v) (qw r s es u wd v) (xG r s es u wd v)) := by
 obtain ⟨a, cap, rfl, hnc⟩ := h.form; obtain ⟨m, hm⟩ := ag es.length; have h0 := h; rw [← hm] at h; obtain ⟨w1, hw1⟩ := ag ((w.alloc (.cells #[.int .i64 r, .int .i64 s, .slice a m cap] 26)).alloc (.cells #[.int .i64 0, .int .i64 0, .slice none 0 0] 26)); have hb1 : Below w.heap.size w w1 := by rw [hw1]; exact ((Below.refl _ _).alloc (nl _) _).alloc (by simp) _
 have hs1 : w1.heap.size = w.heap.size + 1 + 1 := by rw [hw1]; simp
 have hg := dH w (.cells #[.int .i64 r, .int .i64 s, .slice a m cap] 26) (.cells #[.int .i64 0, .int .i64 0, .slice none 0 0] 26); have hk := heap_alloc_new (w.alloc (.cells #[.int .i64 r, .int .i64 s, .slice a m cap] 26)) (.cells #[.int .i64 0, .int .i64 0, .slice none 0 0] 26); rw [← hw1] at hg hk; rw [show (w.alloc (.cells #[.int .i64 r, .int .i64 s, .slice a m cap] 26)).heap.size = w.heap.size + 1 by simp] at hk
 have g0 : w1.cell? ⟨w.heap.size, 0, none⟩ = some (.int .i64 r) := by simpa using cell_of_heap hg 0
 have g1 : w1.cell? ⟨w.heap.size, 1, none⟩ = some (.int .i64 s) := by simpa using cell_of_heap hg 1
 have g2 : w1.cell? ⟨w.heap.size, 2, none⟩ = some (.slice a m cap) := by simpa using cell_of_heap hg 2
 have hcopy := kH w1 r s (.slice a es.length cap) es ((h0.below hb1).mono hb1.size) (by omega)
 rw [← hm] at hcopy ⊢; obtain ⟨B, hB⟩ := ag (xG r s es u wd v); obtain ⟨PS, hPS⟩ := ag (rY r s es u wd v); obtain ⟨PE, hPE⟩ := ag (qw r s es u wd v); obtain ⟨n, hn⟩ := ag wd.length; have hparts : B = (aK r s es && decide (0 ≤ u ∧ u < s) && decide (0 ≤ v ∧ v < s) && jU r wd && decide (n ≠ 0) && decide (s + n - 1 ≤ 40) && decide (es.length + n ≤ 120)) := by rw [hB, hn]; rfl
 rw [← hB, ← hPS, ← hPE]; have hfalse : B = false → PS = s ∧ PE = es := fun hf => by
  rw [hPS, hPE]; unfold rY qw; rw [← hB, hf]; exact ⟨rfl, rfl⟩
 have htrue : B = true → PS = s + n - 1 ∧ PE = dD es (gJ s u v wd n) := fun hf => by
  rw [hPS, hPE, hn]; unfold rY qw; rw [← hB, hf]; exact ⟨rfl, rfl⟩
 have hlim : aK r s es = true → 1 ≤ s ∧ s ≤ 40 ∧ es.length ≤ 120 ∧ 1 ≤ r ∧ r ≤ 3 := fun h => by obtain ⟨_, g0, g1, g2, g3, g4⟩ := dN.1 h; exact ⟨g2, g3, g4, g0, g1⟩
 obtain ⟨b1, hb1_⟩ := ag (aK r s es); obtain ⟨b4, hb4_⟩ := ag (jU r wd); obtain ⟨hwz, aw, cw, rfl, hwn, hwc⟩ := hw; have hw9 : bD w.heap.size w (.slice aw wd.length cw) wd := ⟨hwz, aw, cw, rfl, hwn, hwc⟩; clear hwn hwc hwz; rw [← hn] at hw9 hwl ⊢; have hwx := fun W B (hr : bD B W (.slice aw n cw) wd) => D8 W B _ wd r hr
 have hgrx := fun W (hr : ay W.heap.size W (.slice a es.length cap) es) => kC W r s _ es hr hs (by omega)
 rw [← hb1_] at hparts hlim; rw [← hb4_] at hparts; rw [← hm] at hgrx; simp only [← hb4_] at hwx; simp only [← hb1_] at hgrx; have hrd1 : ay w.heap.size w1 (.slice a m cap) es := h.below hb1; replace hm := ae hm; replace hB := ae hB; replace hPS := ae hPS; replace hPE := ae hPE; replace hfalse := ae hfalse; replace htrue := ae htrue; replace hparts := ae hparts; replace hlim := ae hlim; replace h := ae h
 replace h0 := ae h0; replace hg := ae hg; replace hk := ae hk; replace hn := ae hn; replace hw9 := ae hw9; replace hnc := ae hnc; replace hs1 := ae hs1; replace hwx := ae hwx; replace hgrx := ae hgrx; replace hrd1 := ae hrd1; replace hb1_ := ae hb1_; replace hb4_ := ae hb4_; go_enter Tryz.func176, Tryz.ntmps176
 go_upto_region 1 with fail
 rw [← hw1]; replace hw1 := ae hw1; go_wp2_with fail; refine hcopy.mono ?_; rintro e w2 ⟨b, cap2, rfl, hrow2, hb2⟩; rw [← hm.out]; rw [← hm.out] at hrow2; clear hcopy; have hs2 := hb2.size; replace g0 := af g0 hb2 (by have := hs1.out; omega)
 replace g1 := af g1 hb2 (by have := hs1.out; omega)
 replace g2 := af g2 hb2 (by have := hs1.out; omega)
 have hR2 : w2.heap[w.heap.size + 1]? = some (.cells #[.int .i64 0, .int .i64 0, .slice none 0 0] 26 (0, 0)) := by rw [hb2.block _ (by have := hs1.out; omega)]; exact hk.out
 obtain ⟨w3, hw3⟩ := ag (w2.alloc (.cells #[.int .i64 r, .int .i64 s, .slice b m cap2] 26)); have hb3 : Below w2.heap.size w2 w3 := by rw [hw3]; exact (Below.refl _ _).alloc (nl _) _
 have hs3 : w3.heap.size = w2.heap.size + 1 := by rw [hw3]; simp
 obtain ⟨X, hX⟩ := ag w2.heap.size; have hX3 : w3.heap[X]? = some (.cells #[.int .i64 r, .int .i64 s, .slice b m cap2] 26 (0, 0)) := by rw [hw3, hX]; exact heap_alloc_new _ _
 replace g0 := af g0 hb3 (by have := hs1.out; omega)
 replace g1 := af g1 hb3 (by have := hs1.out; omega)
 replace g2 := af g2 hb3 (by have := hs1.out; omega)
 have hR3 : w3.heap[w.heap.size + 1]? = some (.cells #[.int .i64 0, .int .i64 0, .slice none 0 0] 26 (0, 0)) := by rw [hb3.block _ (by have := hs1.out; omega)]; exact hR2
 have hbw3 : Below w.heap.size w w3 := (hb1.trans (hb2.mono hb1.size)).trans (hb3.mono (by have := hb1.size; omega))
 have hst3 : cO w3 X w1.heap.size r s (.slice b m cap2) es := ⟨hX3, w1.heap.size, w2.heap.size, by rw [hm.out] at hrow2 ⊢; exact hrow2.below hb3 (nl _), nl _, by omega, .inl (by omega)⟩
 have hrd3 : ay w3.heap.size w3 (.slice a m cap) es := ((hrd1.out.below (hb2.mono (by have := hb1.size; omega))).below (hb3.mono (by have := hb1.size; omega))).mono (by have := hb1.size; omega)
 have hrw3 : bD w.heap.size w3 (.slice aw n cw) wd := hw9.out.below hbw3; have hgr := hgrx.out w3 hrd3; have hbase : w1.heap.size = w.heap.size + 1 + 1 := hs1.out; have hbX : w1.heap.size ≤ X := by omega
 have hX3s : X < w3.heap.size := by omega
 replace hX3 := ae hX3; replace hR2 := ae hR2; replace hR3 := ae hR3; replace hst3 := ae hst3; replace hrd3 := ae hrd3; replace hrw3 := ae hrw3; replace hrow2 := ae hrow2; replace hbw3 := ae hbw3; replace hs3 := ae hs3; replace hbase := ae hbase; go_upto_region 2 with fail
 rw [← hw3, ← hX]; replace hw3 := ae hw3; replace hX := ae hX; clear hb2 hb3
 cases b1 with
 | false =>
  replace hparts : Hid (B = false) := ae (by rw [hparts.out]; rfl)
  have hpz : B = false := by rw [hparts.out]
  obtain ⟨hPS9, hPE9⟩ := hfalse.out hpz; replace hPS9 := hPS9.symm; replace hPE9 := hPE9.symm; subst hpz; subst hPS9; subst hPE9; have hbz3 := Below.refl w3.heap.size w3; go_wp2_with fail; refine hgr.mono ?_; rintro e w4 ⟨rfl, hbn⟩; have hbz4 := hbz3.trans (hbn.mono hbz3.size); replace g0 := af g0 hbn (by have := hbase.out; omega)
  replace g1 := af g1 hbn (by have := hbase.out; omega)
  replace g2 := af g2 hbn (by have := hbase.out; omega)
  have hsz4 := hbn.size; clear hbn; have hR9 : w4.heap[w.heap.size + 1]? = some (.cells #[.int .i64 0, .int .i64 0, .slice none 0 0] 26 (0, 0)) := by rw [hbz4.block _ (by have := hbase.out; omega)]; exact hR3.out
  have hst9 : cO w4 X w1.heap.size r s (.slice b m cap2) es := by
   obtain ⟨q1, lo, hi, q2, q3, q4, q5⟩ := hst3.out; exact ⟨by rw [hbz4.block _ hX3s]; exact q1, lo, hi, q2.below hbz4 q4, q3, Nat.le_trans q4 hbz4.size, q5⟩
  have hX9 := hst9.1; have hfin := iI (w := w) (w9 := w4) (X := X) (R := w.heap.size + 1) (base := w1.heap.size) (cap := cap2) (r := r) (s' := s) (E := es) (b := false) (a := b) (by omega) (by have := hbase.out; omega) (hbw3.out.trans (hbz4.mono hbw3.out.size)) (by rw [← hm.out]; exact hst9)
  rw [← hm.out] at hfin; obtain ⟨x0, x1, x2⟩ := ah hX9; obtain ⟨y0, y1, y2⟩ := ah hR9; have f2 := fun j => frozen_of_row w4 (w.heap.size + 1) j _ _ hR9
  simp at x0 x1 x2 y0 y1 y2
  replace hfin := ae hfin; replace hR9 := ae hR9; replace hX9 := ae hX9; replace hst9 := ae hst9; go_wp2
  (try simp only [Exit.inBlock, Exit.then])
  refine aO (x := .bool false) rfl rfl rfl (set3 hR9.out _ _ _) Tryz.underlying26 aB ?_; exact hfin.out
 | true =>
  obtain ⟨hs1_, hs2_, hel, hr1, hr3⟩ := hlim.out rfl; have hmb : m ≤ 120 := by have := hm.out; omega
  have hpar := hparts.out; rw [Bool.true_and] at hpar; replace hparts := ae hpar; clear hpar; by_cases c1 : 0 ≤ u ∧ u < s
  case neg =>
   replace hparts : Hid (B = false) := ae (by rw [hparts.out, decide_eq_false c1]; rfl)
   have hvu : ∀ W, Calls Tryz.prog 63 #[.int .i64 u, .int .i64 0, .int .i64 (s - 1)] W (fun e w' => e = .returned (.bool false) ∧ W = w') := fun W => by have := iE W u 0 (s - 1); rwa [decide_eq_false (show ¬ (0 ≤ u ∧ u ≤ s - 1) by omega)] at this
   replace c1 := ae c1; have hpz : B = false := by rw [hparts.out]
   obtain ⟨hPS9, hPE9⟩ := hfalse.out hpz; replace hPS9 := hPS9.symm; replace hPE9 := hPE9.symm; subst hpz; subst hPS9; subst hPE9; have hbz3 := Below.refl w3.heap.size w3; go_wp2_with fail; refine hgr.mono ?_; rintro e w4 ⟨rfl, hbn⟩; have hbz4 := hbz3.trans (hbn.mono hbz3.size); replace g0 := af g0 hbn (by have := hbase.out; omega)
   replace g1 := af g1 hbn (by have := hbase.out; omega)
   replace g2 := af g2 hbn (by have := hbase.out; omega)
   have hsz4 := hbn.size; clear hbn; go_wp2_with fail; refine (hvu w4).mono ?_; rintro e wz ⟨rfl, rfl⟩; have hR9 : w4.heap[w.heap.size + 1]? = some (.cells #[.int .i64 0, .int .i64 0, .slice none 0 0] 26 (0, 0)) := by rw [hbz4.block _ (by have := hbase.out; omega)]; exact hR3.out
   have hst9 : cO w4 X w1.heap.size r s (.slice b m cap2) es := by
    obtain ⟨q1, lo, hi, q2, q3, q4, q5⟩ := hst3.out; exact ⟨by rw [hbz4.block _ hX3s]; exact q1, lo, hi, q2.below hbz4 q4, q3, Nat.le_trans q4 hbz4.size, q5⟩
   have hX9 := hst9.1; have hfin := iI (w := w) (w9 := w4) (X := X) (R := w.heap.size + 1) (base := w1.heap.size) (cap := cap2) (r := r) (s' := s) (E := es) (b := false) (a := b) (by omega) (by have := hbase.out; omega) (hbw3.out.trans (hbz4.mono hbw3.out.size)) (by rw [← hm.out]; exact hst9)
   rw [← hm.out] at hfin; obtain ⟨x0, x1, x2⟩ := ah hX9; obtain ⟨y0, y1, y2⟩ := ah hR9; have f2 := fun j => frozen_of_row w4 (w.heap.size + 1) j _ _ hR9
   simp at x0 x1 x2 y0 y1 y2
   replace hfin := ae hfin; replace hR9 := ae hR9; replace hX9 := ae hX9; replace hst9 := ae hst9; go_wp2
   (try simp only [Exit.inBlock, Exit.then])
   refine aO (x := .bool false) rfl rfl rfl (set3 hR9.out _ _ _) Tryz.underlying26 aB ?_; exact hfin.out
  have hvu : ∀ W, Calls Tryz.prog 63 #[.int .i64 u, .int .i64 0, .int .i64 (s - 1)] W (fun e w' => e = .returned (.bool true) ∧ W = w') := fun W => by have := iE W u 0 (s - 1); rwa [decide_eq_true (show 0 ≤ u ∧ u ≤ s - 1 by omega)] at this
  have hpar := hparts.out; rw [decide_eq_true c1, Bool.true_and] at hpar; replace hparts := ae hpar; clear hpar; replace c1 := ae c1; by_cases c2 : 0 ≤ v ∧ v < s
  case neg =>
   replace hparts : Hid (B = false) := ae (by rw [hparts.out, decide_eq_false c2]; rfl)
   have hvv : ∀ W, Calls Tryz.prog 63 #[.int .i64 v, .int .i64 0, .int .i64 (s - 1)] W (fun e w' => e = .returned (.bool false) ∧ W = w') := fun W => by have := iE W v 0 (s - 1); rwa [decide_eq_false (show ¬ (0 ≤ v ∧ v ≤ s - 1) by omega)] at this
   replace c2 := ae c2; have hpz : B = false := by rw [hparts.out]
   obtain ⟨hPS9, hPE9⟩ := hfalse.out hpz; replace hPS9 := hPS9.symm; replace hPE9 := hPE9.symm; subst hpz; subst hPS9; subst hPE9; have hbz3 := Below.refl w3.heap.size w3; go_wp2_with fail; refine hgr.mono ?_; rintro e w4 ⟨rfl, hbn⟩; have hbz4 := hbz3.trans (hbn.mono hbz3.size); replace g0 := af g0 hbn (by have := hbase.out; omega)
   replace g1 := af g1 hbn (by have := hbase.out; omega)
   replace g2 := af g2 hbn (by have := hbase.out; omega)
   have hsz4 := hbn.size; clear hbn; go_wp2_with fail; refine (hvu w4).mono ?_; rintro e wz ⟨rfl, rfl⟩; go_wp2_with fail; refine (hvv w4).mono ?_; rintro e wz ⟨rfl, rfl⟩; have hR9 : w4.heap[w.heap.size + 1]? = some (.cells #[.int .i64 0, .int .i64 0, .slice none 0 0] 26 (0, 0)) := by rw [hbz4.block _ (by have := hbase.out; omega)]; exact hR3.out
   have hst9 : cO w4 X w1.heap.size r s (.slice b m cap2) es := by
    obtain ⟨q1, lo, hi, q2, q3, q4, q5⟩ := hst3.out; exact ⟨by rw [hbz4.block _ hX3s]; exact q1, lo, hi, q2.below hbz4 q4, q3, Nat.le_trans q4 hbz4.size, q5⟩
   have hX9 := hst9.1; have hfin := iI (w := w) (w9 := w4) (X := X) (R := w.heap.size + 1) (base := w1.heap.size) (cap := cap2) (r := r) (s' := s) (E := es) (b := false) (a := b) (by omega) (by have := hbase.out; omega) (hbw3.out.trans (hbz4.mono hbw3.out.size)) (by rw [← hm.out]; exact hst9)
   rw [← hm.out] at hfin; obtain ⟨x0, x1, x2⟩ := ah hX9; obtain ⟨y0, y1, y2⟩ := ah hR9; have f2 := fun j => frozen_of_row w4 (w.heap.size + 1) j _ _ hR9
   simp at x0 x1 x2 y0 y1 y2
   replace hfin := ae hfin; replace hR9 := ae hR9; replace hX9 := ae hX9; replace hst9 := ae hst9; go_wp2
   (try simp only [Exit.inBlock, Exit.then])
   refine aO (x := .bool false) rfl rfl rfl (set3 hR9.out _ _ _) Tryz.underlying26 aB ?_; exact hfin.out
  have hvv : ∀ W, Calls Tryz.prog 63 #[.int .i64 v, .int .i64 0, .int .i64 (s - 1)] W (fun e w' => e = .returned (.bool true) ∧ W = w') := fun W => by have := iE W v 0 (s - 1); rwa [decide_eq_true (show 0 ≤ v ∧ v ≤ s - 1 by omega)] at this
  have hpar := hparts.out; rw [decide_eq_true c2, Bool.true_and] at hpar; replace hparts := ae hpar; clear hpar; replace c2 := ae c2
  cases b4 with
  | false =>
   replace hparts : Hid (B = false) := ae (by rw [hparts.out]; rfl)
   have hpz : B = false := by rw [hparts.out]
   obtain ⟨hPS9, hPE9⟩ := hfalse.out hpz; replace hPS9 := hPS9.symm; replace hPE9 := hPE9.symm; subst hpz; subst hPS9; subst hPE9; have hbz3 := Below.refl w3.heap.size w3; go_wp2_with fail; refine hgr.mono ?_; rintro e w4 ⟨rfl, hbn⟩; have hbz4 := hbz3.trans (hbn.mono hbz3.size); replace g0 := af g0 hbn (by have := hbase.out; omega)
   replace g1 := af g1 hbn (by have := hbase.out; omega)
   replace g2 := af g2 hbn (by have := hbase.out; omega)
   have hsz4 := hbn.size; clear hbn; go_wp2_with fail; refine (hvu w4).mono ?_; rintro e wz ⟨rfl, rfl⟩; go_wp2_with fail; refine (hvv w4).mono ?_; rintro e wz ⟨rfl, rfl⟩; have q5 := hrw3.out.below (hbz4.mono (by have := hbase.out; omega))
   go_wp2_with fail; refine (hwx.out w4 _ q5).mono ?_; rintro e w5 ⟨rfl, mm, rfl⟩; replace hbz4 := bf hbz4 mm; have hR9 : (w4.drewN mm).heap[w.heap.size + 1]? = some (.cells #[.int .i64 0, .int .i64 0, .slice none 0 0] 26 (0, 0)) := by rw [hbz4.block _ (by have := hbase.out; omega)]; exact hR3.out
   have hst9 : cO (w4.drewN mm) X w1.heap.size r s (.slice b m cap2) es := by
    obtain ⟨q1, lo, hi, q2, q3, q4, q5⟩ := hst3.out; exact ⟨by rw [hbz4.block _ hX3s]; exact q1, lo, hi, q2.below hbz4 q4, q3, Nat.le_trans q4 hbz4.size, q5⟩
   have hX9 := hst9.1; have hfin := iI (w := w) (w9 := (w4.drewN mm)) (X := X) (R := w.heap.size + 1) (base := w1.heap.size) (cap := cap2) (r := r) (s' := s) (E := es) (b := false) (a := b) (by omega) (by have := hbase.out; omega) (hbw3.out.trans (hbz4.mono hbw3.out.size)) (by rw [← hm.out]; exact hst9)
   rw [← hm.out] at hfin; obtain ⟨x0, x1, x2⟩ := ah hX9; obtain ⟨y0, y1, y2⟩ := ah hR9; have f2 := fun j => frozen_of_row (w4.drewN mm) (w.heap.size + 1) j _ _ hR9
   simp at x0 x1 x2 y0 y1 y2
   replace hfin := ae hfin; replace hR9 := ae hR9; replace hX9 := ae hX9; replace hst9 := ae hst9; go_wp2
   (try simp only [Exit.inBlock, Exit.then])
   refine aO (x := .bool false) rfl rfl rfl (set3 hR9.out _ _ _) Tryz.underlying26 aB ?_; exact hfin.out
  | true =>
   have hpar := hparts.out; rw [Bool.true_and] at hpar; replace hparts := ae hpar; clear hpar; have hn24 : n ≤ 24 := by
    have hiw := hb4_.out.symm; unfold jU at hiw; rw [decide_eq_true_eq] at hiw; have := hn.out; omega
   by_cases c3 : 0 < n
   case neg =>
    have hn0 : n = 0 := by omega
    replace hparts : Hid (B = false) := ae (by rw [hparts.out, decide_eq_false (show ¬ n ≠ 0 by omega)]; rfl)
    have t3d : ((n : Int) == 0) = true := by rw [beq_iff_eq]; omega
    replace hn0 := ae hn0; replace c3 := ae c3; have hpz : B = false := by rw [hparts.out]
    obtain ⟨hPS9, hPE9⟩ := hfalse.out hpz; replace hPS9 := hPS9.symm; replace hPE9 := hPE9.symm; subst hpz; subst hPS9; subst hPE9; have hbz3 := Below.refl w3.heap.size w3; go_wp2_with fail; refine hgr.mono ?_; rintro e w4 ⟨rfl, hbn⟩; have hbz4 := hbz3.trans (hbn.mono hbz3.size); replace g0 := af g0 hbn (by have := hbase.out; omega)
    replace g1 := af g1 hbn (by have := hbase.out; omega)
    replace g2 := af g2 hbn (by have := hbase.out; omega)
    have hsz4 := hbn.size; clear hbn; go_wp2_with fail; refine (hvu w4).mono ?_; rintro e wz ⟨rfl, rfl⟩; go_wp2_with fail; refine (hvv w4).mono ?_; rintro e wz ⟨rfl, rfl⟩; have q5 := hrw3.out.below (hbz4.mono (by have := hbase.out; omega))
    go_wp2_with fail; refine (hwx.out w4 _ q5).mono ?_; rintro e w5 ⟨rfl, mm, rfl⟩; replace hbz4 := bf hbz4 mm; have hR9 : (w4.drewN mm).heap[w.heap.size + 1]? = some (.cells #[.int .i64 0, .int .i64 0, .slice none 0 0] 26 (0, 0)) := by rw [hbz4.block _ (by have := hbase.out; omega)]; exact hR3.out
    have hst9 : cO (w4.drewN mm) X w1.heap.size r s (.slice b m cap2) es := by
     obtain ⟨q1, lo, hi, q2, q3, q4, q5⟩ := hst3.out; exact ⟨by rw [hbz4.block _ hX3s]; exact q1, lo, hi, q2.below hbz4 q4, q3, Nat.le_trans q4 hbz4.size, q5⟩
    have hX9 := hst9.1; have hfin := iI (w := w) (w9 := (w4.drewN mm)) (X := X) (R := w.heap.size + 1) (base := w1.heap.size) (cap := cap2) (r := r) (s' := s) (E := es) (b := false) (a := b) (by omega) (by have := hbase.out; omega) (hbw3.out.trans (hbz4.mono hbw3.out.size)) (by rw [← hm.out]; exact hst9)
    rw [← hm.out] at hfin; obtain ⟨x0, x1, x2⟩ := ah hX9; obtain ⟨y0, y1, y2⟩ := ah hR9; have f2 := fun j => frozen_of_row (w4.drewN mm) (w.heap.size + 1) j _ _ hR9
    simp at x0 x1 x2 y0 y1 y2
    replace hfin := ae hfin; replace hR9 := ae hR9; replace hX9 := ae hX9; replace hst9 := ae hst9; go_wp2
    (try simp only [Exit.inBlock, Exit.then])
    refine aO (x := .bool false) rfl rfl rfl (set3 hR9.out _ _ _) Tryz.underlying26 aB ?_; exact hfin.out
   have hpar := hparts.out; rw [decide_eq_true (show n ≠ 0 by omega), Bool.true_and] at hpar
   replace hparts := ae hpar; clear hpar; have t3d : ((n : Int) == 0) = false := by rw [beq_eq_false_iff_ne]; omega
   by_cases c5 : s + n - 1 ≤ 40
   case neg =>
    replace hparts : Hid (B = false) := ae (by rw [hparts.out, decide_eq_false c5]; rfl)
    have hpz : B = false := by rw [hparts.out]
    obtain ⟨hPS9, hPE9⟩ := hfalse.out hpz; replace hPS9 := hPS9.symm; replace hPE9 := hPE9.symm; subst hpz; subst hPS9; subst hPE9; have hbz3 := Below.refl w3.heap.size w3; go_wp2_with fail; refine hgr.mono ?_; rintro e w4 ⟨rfl, hbn⟩; have hbz4 := hbz3.trans (hbn.mono hbz3.size); replace g0 := af g0 hbn (by have := hbase.out; omega)
    replace g1 := af g1 hbn (by have := hbase.out; omega)
    replace g2 := af g2 hbn (by have := hbase.out; omega)
    have hsz4 := hbn.size; clear hbn; go_wp2_with fail; refine (hvu w4).mono ?_; rintro e wz ⟨rfl, rfl⟩; go_wp2_with fail; refine (hvv w4).mono ?_; rintro e wz ⟨rfl, rfl⟩; have q5 := hrw3.out.below (hbz4.mono (by have := hbase.out; omega))
    go_wp2_with fail; refine (hwx.out w4 _ q5).mono ?_; rintro e w5 ⟨rfl, mm, rfl⟩; replace hbz4 := bf hbz4 mm; have hR9 : (w4.drewN mm).heap[w.heap.size + 1]? = some (.cells #[.int .i64 0, .int .i64 0, .slice none 0 0] 26 (0, 0)) := by rw [hbz4.block _ (by have := hbase.out; omega)]; exact hR3.out
    have hst9 : cO (w4.drewN mm) X w1.heap.size r s (.slice b m cap2) es := by
     obtain ⟨q1, lo, hi, q2, q3, q4, q5⟩ := hst3.out; exact ⟨by rw [hbz4.block _ hX3s]; exact q1, lo, hi, q2.below hbz4 q4, q3, Nat.le_trans q4 hbz4.size, q5⟩
    have hX9 := hst9.1; have hfin := iI (w := w) (w9 := (w4.drewN mm)) (X := X) (R := w.heap.size + 1) (base := w1.heap.size) (cap := cap2) (r := r) (s' := s) (E := es) (b := false) (a := b) (by omega) (by have := hbase.out; omega) (hbw3.out.trans (hbz4.mono hbw3.out.size)) (by rw [← hm.out]; exact hst9)
    rw [← hm.out] at hfin; obtain ⟨x0, x1, x2⟩ := ah hX9; obtain ⟨y0, y1, y2⟩ := ah hR9; have f2 := fun j => frozen_of_row (w4.drewN mm) (w.heap.size + 1) j _ _ hR9
    simp at x0 x1 x2 y0 y1 y2
    replace hfin := ae hfin; replace hR9 := ae hR9; replace hX9 := ae hX9; replace hst9 := ae hst9; go_wp2
    all_goals first | (exfalso; omega) | skip
    (try simp only [Exit.inBlock, Exit.then])
    refine aO (x := .bool false) rfl rfl rfl (set3 hR9.out _ _ _) Tryz.underlying26 aB ?_; exact hfin.out
   have hpar := hparts.out; rw [decide_eq_true c5, Bool.true_and] at hpar; replace hparts := ae hpar; clear hpar; by_cases c6 : (m : Int) + n ≤ 120
   case neg =>
    replace hparts : Hid (B = false) := ae (by rw [hparts.out, decide_eq_false_iff_not]; have := hm.out; omega)
    have hpz : B = false := by rw [hparts.out]
    obtain ⟨hPS9, hPE9⟩ := hfalse.out hpz; replace hPS9 := hPS9.symm; replace hPE9 := hPE9.symm; subst hpz; subst hPS9; subst hPE9; have hbz3 := Below.refl w3.heap.size w3; go_wp2_with fail; refine hgr.mono ?_; rintro e w4 ⟨rfl, hbn⟩; have hbz4 := hbz3.trans (hbn.mono hbz3.size); replace g0 := af g0 hbn (by have := hbase.out; omega)
    replace g1 := af g1 hbn (by have := hbase.out; omega)
    replace g2 := af g2 hbn (by have := hbase.out; omega)
    have hsz4 := hbn.size; clear hbn; go_wp2_with fail; refine (hvu w4).mono ?_; rintro e wz ⟨rfl, rfl⟩; go_wp2_with fail; refine (hvv w4).mono ?_; rintro e wz ⟨rfl, rfl⟩; have q5 := hrw3.out.below (hbz4.mono (by have := hbase.out; omega))
    go_wp2_with fail; refine (hwx.out w4 _ q5).mono ?_; rintro e w5 ⟨rfl, mm, rfl⟩; replace hbz4 := bf hbz4 mm; have hR9 : (w4.drewN mm).heap[w.heap.size + 1]? = some (.cells #[.int .i64 0, .int .i64 0, .slice none 0 0] 26 (0, 0)) := by rw [hbz4.block _ (by have := hbase.out; omega)]; exact hR3.out
    have hst9 : cO (w4.drewN mm) X w1.heap.size r s (.slice b m cap2) es := by
     obtain ⟨q1, lo, hi, q2, q3, q4, q5⟩ := hst3.out; exact ⟨by rw [hbz4.block _ hX3s]; exact q1, lo, hi, q2.below hbz4 q4, q3, Nat.le_trans q4 hbz4.size, q5⟩
    have hX9 := hst9.1; have hfin := iI (w := w) (w9 := (w4.drewN mm)) (X := X) (R := w.heap.size + 1) (base := w1.heap.size) (cap := cap2) (r := r) (s' := s) (E := es) (b := false) (a := b) (by omega) (by have := hbase.out; omega) (hbw3.out.trans (hbz4.mono hbw3.out.size)) (by rw [← hm.out]; exact hst9)
    rw [← hm.out] at hfin; obtain ⟨x0, x1, x2⟩ := ah hX9; obtain ⟨y0, y1, y2⟩ := ah hR9; have f2 := fun j => frozen_of_row (w4.drewN mm) (w.heap.size + 1) j _ _ hR9
    simp at x0 x1 x2 y0 y1 y2
    replace hfin := ae hfin; replace hR9 := ae hR9; replace hX9 := ae hX9; replace hst9 := ae hst9; go_wp2
    all_goals first | (exfalso; omega) | skip
    (try simp only [Exit.inBlock, Exit.then])
    refine aO (x := .bool false) rfl rfl rfl (set3 hR9.out _ _ _) Tryz.underlying26 aB ?_; exact hfin.out
   have hpz : B = true := by rw [hparts.out, decide_eq_true_eq]; have := hm.out; omega
   have hbz3 := Below.refl w3.heap.size w3; go_wp2_with fail; refine hgr.mono ?_; rintro e w4 ⟨rfl, hbn⟩; have hbz4 := hbz3.trans (hbn.mono hbz3.size); replace g0 := af g0 hbn (by have := hbase.out; omega)
   replace g1 := af g1 hbn (by have := hbase.out; omega)
   replace g2 := af g2 hbn (by have := hbase.out; omega)
   have hsz4 := hbn.size; clear hbn; go_wp2_with fail; refine (hvu w4).mono ?_; rintro e wz ⟨rfl, rfl⟩; go_wp2_with fail; refine (hvv w4).mono ?_; rintro e wz ⟨rfl, rfl⟩; have q5 := hrw3.out.below (hbz4.mono (by have := hbase.out; omega))
   go_wp2_with fail; refine (hwx.out w4 _ q5).mono ?_; rintro e w5 ⟨rfl, mm, rfl⟩; replace hbz4 := bf hbz4 mm; have hR9 : (w4.drewN mm).heap[w.heap.size + 1]? = some (.cells #[.int .i64 0, .int .i64 0, .slice none 0 0] 26 (0, 0)) := by rw [hbz4.block _ (by have := hbase.out; omega)]; exact hR3.out
   have hst9 : cO (w4.drewN mm) X w1.heap.size r s (.slice b m cap2) es := by
    obtain ⟨q1, lo, hi, q2, q3, q4, q5⟩ := hst3.out; exact ⟨by rw [hbz4.block _ hX3s]; exact q1, lo, hi, q2.below hbz4 q4, q3, Nat.le_trans q4 hbz4.size, q5⟩
   obtain ⟨hPS9, hPE9⟩ := htrue.out hpz; obtain ⟨w5, hw5⟩ := ag (w4.drewN mm); rw [← hw5] at hR9 hst9 hbz4 ⊢; have hbw5 : Below w.heap.size w w5 := hbw3.out.trans (hbz4.mono hbw3.out.size); have hX5s : X < w5.heap.size := by have := hbz4.size; omega
   replace g0 : w5.cell? ⟨w.heap.size, 0, none⟩ = some (.int .i64 r) := by rw [hw5]; exact g0
   replace g1 : w5.cell? ⟨w.heap.size, 1, none⟩ = some (.int .i64 s) := by rw [hw5]; exact g1
   replace g2 : w5.cell? ⟨w.heap.size, 2, none⟩ = some (.slice a m cap) := by rw [hw5]; exact g2
   have hiw := hb4_.out.symm; obtain ⟨bw, ow, rfl, hbwl, _⟩ := hw9.out.at2 0 (by have := hn.out; omega)
   have hwc : ∀ j, j < n → ∀ W, Below w.heap.size w W → W.cell? ⟨bw, ow + j, none⟩ = some (.int .i64 (wd.getD j 0)) := fun j hj W hW => by
    obtain ⟨b', o', e, _, hc⟩ := hw9.out.at2 j (by have := hn.out; omega)
    cases e
    exact af hc hW hbwl
   have hlet : ∀ j, j < n → wd.getD j 0 ≠ 0 ∧ -3 ≤ wd.getD j 0 ∧ wd.getD j 0 ≤ 3 := fun j hj => KZ hiw ⟨hr1, hr3⟩ (by have := hn.out; omega)
   have hst0 : Hid (∃ v', cO w5 X w1.heap.size r (s + (0 : Nat)) v' (dD es (gJ s u v wd 0))) := ae ⟨_, by
    have e1 : s + ((0 : Nat) : Int) = s := by simp
    have e3 : dD es (gJ s u v wd 0) = es := by simp [gJ, dD]
    rw [e1, e3]; exact hst9⟩
   have hk0 : Hid (Below X w5 w5) := ae (Below.refl _ _); replace hw5 := ae hw5; replace hR9 := ae hR9; replace hst9 := ae hst9; replace hbz4 := ae hbz4; replace hbw5 := ae hbw5; replace hwc := ae hwc; replace hlet := ae hlet; replace hiw := ae hiw; replace hpz := ae hpz; replace hPS9 := ae hPS9; replace hPE9 := ae hPE9; clear hwx hgrx hvu hvv; go_wp2
   all_goals first | (exfalso; omega) | skip
   clear g0 g1 g2
   go_loopg [11, 12, 13] n (fun gg x i nx wr => ∃ (k : Nat) (y : Int), k + gg = n ∧ i = .int .i64 k ∧ x = .int .i64 y ∧ Hid (k < n → y = zt s u k) ∧ Hid (∃ v', cO wr X w1.heap.size r (if k < n then s + (k : Nat) else s + n - 1) v' (dD es (gJ s u v wd k))) ∧ Hid (Below X w5 wr))
   case atStart => exact ⟨0, u, by omega, rfl, rfl, ae (fun _ => rfl), by rw [if_pos c3]; exact hst0, hk0⟩
   case round =>
    clear hst0 hk0; obtain ⟨k, y, hk9, rfl, rfl, hat, hst, hkb⟩ := hrel; obtain ⟨v6, hP⟩ := hst.out; obtain ⟨E, hE⟩ := ag (dD es (gJ s u v wd k)); rw [← hE] at hP; have hEl : E.length ≤ 1000 := by
     rw [hE]; have := tq (gJ s u v wd k) es; rw [uw] at this; omega
    obtain ⟨av, cv, rfl⟩ := hP.form; have hbr : Below w.heap.size w wr := hbw5.out.trans (hkb.out.mono (by have := hbase.out; omega))
    have hXr : X < wr.heap.size := by have := hkb.out.size; omega
    by_cases hlt : k < n
    · have hki : (k : Int) < (n : Int) := by omega
      rw [if_pos hlt] at hP; have hy := hat.out hlt; obtain ⟨z, hz⟩ := ag (wd.getD k 0); have hzb := hlet.out k hlt; rw [← hz] at hzb; have czr := hwc.out k hlt wr hbr; rw [← hz] at czr; obtain ⟨sk, hsk⟩ : ∃ x : Int, x = s + (k : Nat) := ⟨_, rfl⟩; rw [← hsk] at hP; have hskb : 1 ≤ sk ∧ sk ≤ 100 := by omega
      by_cases hmid : k + 1 < n
      · have hmi : (k : Int) + 1 < (n : Int) := by omega
        by_cases hpos : 0 < z
        ·
         obtain ⟨wa, hwa⟩ := ag (wr.setCell ⟨X, 1, none⟩ (.int .i64 (sk + 1))); have hSa : cO wa X w1.heap.size r (sk + 1) (.slice av E.length cv) E := by rw [hwa]; exact hP.sized (sk + 1)
         have hba : Below X w5 wa := by rw [hwa]; exact hkb.out.setCell (p := ⟨X, 1, none⟩) (nl _) _
         have hsa : wa.heap.size = wr.heap.size := by rw [hwa]; simp [World.setCell]
         have hbx := hP.1; have c1 := cell_of_heap hbx 1; simp at c1
         have ff := fun j => frozen_of_row wr X j _ _ hbx
         have hbwa : Below w.heap.size w wa := hbw5.out.trans (hba.mono (by have := hbase.out; omega))
         have cza := hwc.out k hlt wa hbwa; rw [← hz] at cza; obtain ⟨wd_, hwd⟩ := ag wa.drew; have hSd : cO wd_ X w1.heap.size r (sk + 1) (.slice av E.length cv) E := by rw [hwd]; exact hSa.drew
         have hsd : wd_.heap.size = wa.heap.size := by rw [hwd]; rfl
         have hbd : Below X w5 wd_ := by rw [hwd]; exact bf hba 1
         have cz : wd_.cell? ⟨bw, ow + k, none⟩ = some (.int .i64 z) := by rw [hwd]; exact cza
         have cX := cell_of_heap hSd.1 2; simp at cX
         have hcall := kJ wd_ (.slice av E.length cv) E y z sk hSd.read (by omega)
         obtain ⟨E2, hE2⟩ := ag (dE (y, z, sk) E); rw [← hE2] at hcall; have hnext : E2 = dD es (gJ s u v wd (k + 1)) := by
          rw [nS, jO, ← hE, hE2]; congr 1
          unfold DN eB; rw [← hy, ← hz, ← hn.out, Dv hmid, ← hsk]; rw [if_neg (by omega)]
         have hzpos : (0 : Int) < z := by omega
         replace hE2 := ae hE2; replace hnext := ae hnext; replace hSa := ae hSa; replace hSd := ae hSd; replace hba := ae hba; replace hbd := ae hbd; replace hbwa := ae hbwa; replace hbx := ae hbx; replace hP := ae hP; replace hwd := ae hwd; replace hz := ae hz; replace hy := ae hy; replace hE := ae hE; replace hsk := ae hsk; replace hk9 := ae hk9; clear hst; go_upto_region 12 with fail
         rw [← hwa]; replace hwa := ae hwa; clear c1 ff; go_wp2; refine bV (fun _ _ d _ _ h => by cases d <;> exact h) (fun Q' hnorm hpan => ?_)
         refine wp_region_held_drew (S := fun x => x.cell? ⟨bw, ow + k, none⟩ = some (.int .i64 z)) (by kernel_rfl) ?_ (fun hHeld => ?_)
         · try dsimp only
           rw [← hwd.out]; exact cz
         rw [← hwd.out] at hHeld ⊢; refine tk 0 90 ?_; refine tk 2 92 ?_; refine tk 3 93 ?_; refine tk 4 94 ?_; refine tk 5 95 ?_; refine tk 6 96 ?_; refine tk 7 97 ?_; refine tk 8 98 ?_; refine rd 1 (fun K hK => ?_)
         rw [if_pos (by rfl)]
         go_simp; refine hK.out _ _ ?_ (fun hHeld => ?_)
         · try dsimp only
           first | assumption | exact cz
         clear hK; try simp only [Act.put, aJ, aH, aI]
         refine rd 9 (fun K hK => ?_)
         rw [if_pos (by rfl)]
         go_simp; go_at_call 90
         (with_reducible refine hcall.mono ?_)
         rintro e w6 ⟨a2, c2, rfl, hrow, hb6⟩; have hs6 := hb6.size; replace cz := af cz hb6 (by have := hbase.out; omega)
         have hX6 : w6.heap[X]? = _ := (hb6.block X (by omega)).trans hSd.out.1
         have c6 := cell_of_heap hX6 2; have f6 := fun j => frozen_of_row w6 X j _ _ hX6
         simp at c6
         have hS7 := hSd.out.put (by omega) hb6 (by have := hbase.out; omega) hrow
         have hb7 : Below X w5 (w6.setCell ⟨X, 2, none⟩ (.slice a2 E2.length c2)) := (hbd.out.trans (hb6.mono (by omega))).setCell (p := ⟨X, 2, none⟩) (nl _) _
         have k9 : (w6.setCell ⟨X, 2, none⟩ (.slice a2 E2.length c2)).cell? ⟨bw, ow + k, none⟩ = some (.int .i64 z) := by
          rw [World.cell?_of_block (w := w6) (a := ⟨bw, ow + k, none⟩) (Below.heap_setCell _ _ _ _ (show bw ≠ X by have := hbase.out; omega))]; exact cz
         replace hX6 := ae hX6; replace hS7 := ae hS7; replace hb7 := ae hb7; replace hrow := ae hrow; replace hb6 := ae hb6; refine hK.out _ _ ?_ (fun hHeld => ?_)
         · try dsimp only
           first | assumption | exact cz
         clear hK; try simp only [Act.put, aJ, aH, aI]
         refine tk 10 100 ?_; refine rd 11 (fun K hK => ?_)
         rw [if_pos (by rfl)]
         go_simp; replace cz := k9; refine hK.out _ _ ?_ (fun hHeld => ?_)
         · try dsimp only
           first | assumption | exact cz
         clear hK; try simp only [Act.put, aJ, aH, aI]
         refine wpAnyH_done (by kernel_rfl) ?_ _
         refine hnorm _ _ ?_; clear hnorm hpan; repeat clear hHeld
         try simp only [Exit.then]
         have hst7 : Hid (∃ v', cO (w6.setCell ⟨X, 2, none⟩ (.slice a2 E2.length c2)) X w1.heap.size r (if k + 1 < n then s + ((k + 1 : Nat) : Int) else s + n - 1) v' (dD es (gJ s u v wd (k + 1)))) := ae ⟨_, by
          have hsz : (if k + 1 < n then s + ((k + 1 : Nat) : Int) else s + n - 1) = sk + 1 := by
           rw [if_pos hmid]; have := hsk.out; push_cast; omega
          rw [hsz, ← hnext.out]; exact hS7.out⟩
         have hat7 : Hid (k + 1 < n → sk = zt s u (k + 1)) := ae (fun h => by rw [BG]; exact hsk.out)
         clear hcall cX; go_wp2; go_roundg (n - (k + 1))
         case rel => exact ⟨k + 1, sk, by have := hk9.out; omega, by go_num, rfl, hat7, hst7, hb7⟩
         case measure => have := hk9.out; omega
        ·
         obtain ⟨wa, hwa⟩ := ag (wr.setCell ⟨X, 1, none⟩ (.int .i64 (sk + 1))); have hSa : cO wa X w1.heap.size r (sk + 1) (.slice av E.length cv) E := by rw [hwa]; exact hP.sized (sk + 1)
         have hba : Below X w5 wa := by rw [hwa]; exact hkb.out.setCell (p := ⟨X, 1, none⟩) (nl _) _
         have hsa : wa.heap.size = wr.heap.size := by rw [hwa]; simp [World.setCell]
         have hbx := hP.1; have c1 := cell_of_heap hbx 1; simp at c1
         have ff := fun j => frozen_of_row wr X j _ _ hbx
         have hbwa : Below w.heap.size w wa := hbw5.out.trans (hba.mono (by have := hbase.out; omega))
         have cza := hwc.out k hlt wa hbwa; rw [← hz] at cza; obtain ⟨wd_, hwd⟩ := ag wa.drew; have hSd : cO wd_ X w1.heap.size r (sk + 1) (.slice av E.length cv) E := by rw [hwd]; exact hSa.drew
         have hsd : wd_.heap.size = wa.heap.size := by rw [hwd]; rfl
         have hbd : Below X w5 wd_ := by rw [hwd]; exact bf hba 1
         have cz : wd_.cell? ⟨bw, ow + k, none⟩ = some (.int .i64 z) := by rw [hwd]; exact cza
         have cX := cell_of_heap hSd.1 2; simp at cX
         have hcall := kJ wd_ (.slice av E.length cv) E sk (-z) y hSd.read (by omega)
         obtain ⟨E2, hE2⟩ := ag (dE (sk, -z, y) E); rw [← hE2] at hcall; have hnext : E2 = dD es (gJ s u v wd (k + 1)) := by
          rw [nS, jO, ← hE, hE2]; congr 1
          unfold DN eB; rw [← hy, ← hz, ← hn.out, Dv hmid, ← hsk]; rw [if_pos (by omega)]
         have hq1 : wrap64 (-z) = -z := by unfold wrap64; omega
         have hq2 : IntKind.i64.wrap (-z) = -z := IntWalk.i64_in _ (by omega)
         have hzpos : ¬ (0 : Int) < z := by omega
         replace hE2 := ae hE2; replace hnext := ae hnext; replace hSa := ae hSa; replace hSd := ae hSd; replace hba := ae hba; replace hbd := ae hbd; replace hbwa := ae hbwa; replace hbx := ae hbx; replace hP := ae hP; replace hwd := ae hwd; replace hz := ae hz; replace hy := ae hy; replace hE := ae hE; replace hsk := ae hsk; replace hk9 := ae hk9; clear hst; go_upto_region 12 with fail
         rw [← hwa]; replace hwa := ae hwa; clear c1 ff; go_wp2; refine bV (fun _ _ d _ _ h => by cases d <;> exact h) (fun Q' hnorm hpan => ?_)
         refine wp_region_held_drew (S := fun x => x.cell? ⟨bw, ow + k, none⟩ = some (.int .i64 z)) (by kernel_rfl) ?_ (fun hHeld => ?_)
         · try dsimp only
           rw [← hwd.out]; exact cz
         rw [← hwd.out] at hHeld ⊢; refine tk 0 101 ?_; refine tk 2 103 ?_; refine tk 3 104 ?_; refine tk 4 105 ?_; refine tk 5 106 ?_; refine tk 6 107 ?_; refine tk 7 108 ?_; refine tk 8 109 ?_; refine tk 9 110 ?_; refine rd 1 (fun K hK => ?_)
         rw [if_pos (by rfl)]
         go_simp; refine hK.out _ _ ?_ (fun hHeld => ?_)
         · try dsimp only
           first | assumption | exact cz
         clear hK; try simp only [Act.put, aJ, aH, aI]
         refine rd 10 (fun K hK => ?_)
         rw [if_pos (by rfl)]
         go_simp; go_at_call 90
         (with_reducible refine hcall.mono ?_)
         rintro e w6 ⟨a2, c2, rfl, hrow, hb6⟩; have hs6 := hb6.size; replace cz := af cz hb6 (by have := hbase.out; omega)
         have hX6 : w6.heap[X]? = _ := (hb6.block X (by omega)).trans hSd.out.1
         have c6 := cell_of_heap hX6 2; have f6 := fun j => frozen_of_row w6 X j _ _ hX6
         simp at c6
         have hS7 := hSd.out.put (by omega) hb6 (by have := hbase.out; omega) hrow
         have hb7 : Below X w5 (w6.setCell ⟨X, 2, none⟩ (.slice a2 E2.length c2)) := (hbd.out.trans (hb6.mono (by omega))).setCell (p := ⟨X, 2, none⟩) (nl _) _
         have k9 : (w6.setCell ⟨X, 2, none⟩ (.slice a2 E2.length c2)).cell? ⟨bw, ow + k, none⟩ = some (.int .i64 z) := by
          rw [World.cell?_of_block (w := w6) (a := ⟨bw, ow + k, none⟩) (Below.heap_setCell _ _ _ _ (show bw ≠ X by have := hbase.out; omega))]; exact cz
         replace hX6 := ae hX6; replace hS7 := ae hS7; replace hb7 := ae hb7; replace hrow := ae hrow; replace hb6 := ae hb6; refine hK.out _ _ ?_ (fun hHeld => ?_)
         · try dsimp only
           first | assumption | exact cz
         clear hK; try simp only [Act.put, aJ, aH, aI]
         refine tk 11 112 ?_; refine rd 12 (fun K hK => ?_)
         rw [if_pos (by rfl)]
         go_simp; replace cz := k9; refine hK.out _ _ ?_ (fun hHeld => ?_)
         · try dsimp only
           first | assumption | exact cz
         clear hK; try simp only [Act.put, aJ, aH, aI]
         refine wpAnyH_done (by kernel_rfl) ?_ _
         refine hnorm _ _ ?_; clear hnorm hpan; repeat clear hHeld
         try simp only [Exit.then]
         have hst7 : Hid (∃ v', cO (w6.setCell ⟨X, 2, none⟩ (.slice a2 E2.length c2)) X w1.heap.size r (if k + 1 < n then s + ((k + 1 : Nat) : Int) else s + n - 1) v' (dD es (gJ s u v wd (k + 1)))) := ae ⟨_, by
          have hsz : (if k + 1 < n then s + ((k + 1 : Nat) : Int) else s + n - 1) = sk + 1 := by
           rw [if_pos hmid]; have := hsk.out; push_cast; omega
          rw [hsz, ← hnext.out]; exact hS7.out⟩
         have hat7 : Hid (k + 1 < n → sk = zt s u (k + 1)) := ae (fun h => by rw [BG]; exact hsk.out)
         clear hcall cX; go_wp2; go_roundg (n - (k + 1))
         case rel => exact ⟨k + 1, sk, by have := hk9.out; omega, by go_num, rfl, hat7, hst7, hb7⟩
         case measure => have := hk9.out; omega
      · have hmi : ¬ (k : Int) + 1 < (n : Int) := by omega
        by_cases hpos : 0 < z
        ·
         obtain ⟨wa, hwa⟩ := ag wr; have hSa : cO wa X w1.heap.size r sk (.slice av E.length cv) E := by rw [hwa]; exact hP
         have hba : Below X w5 wa := by rw [hwa]; exact hkb.out
         have hsa : wa.heap.size = wr.heap.size := by rw [hwa]
         have hbx := hP.1; have hbwa : Below w.heap.size w wa := hbw5.out.trans (hba.mono (by have := hbase.out; omega))
         have cza := hwc.out k hlt wa hbwa; rw [← hz] at cza; obtain ⟨wd_, hwd⟩ := ag wa.drew; have hSd : cO wd_ X w1.heap.size r sk (.slice av E.length cv) E := by rw [hwd]; exact hSa.drew
         have hsd : wd_.heap.size = wa.heap.size := by rw [hwd]; rfl
         have hbd : Below X w5 wd_ := by rw [hwd]; exact bf hba 1
         have cz : wd_.cell? ⟨bw, ow + k, none⟩ = some (.int .i64 z) := by rw [hwd]; exact cza
         have cX := cell_of_heap hSd.1 2; simp at cX
         have hcall := kJ wd_ (.slice av E.length cv) E y z v hSd.read (by omega)
         obtain ⟨E2, hE2⟩ := ag (dE (y, z, v) E); rw [← hE2] at hcall; have hnext : E2 = dD es (gJ s u v wd (k + 1)) := by
          rw [nS, jO, ← hE, hE2]; congr 1
          unfold DN eB; rw [← hy, ← hz, ← hn.out, BJ hmid]; rw [if_neg (by omega)]
         have hzpos : (0 : Int) < z := by omega
         replace hE2 := ae hE2; replace hnext := ae hnext; replace hSa := ae hSa; replace hSd := ae hSd; replace hba := ae hba; replace hbd := ae hbd; replace hbwa := ae hbwa; replace hbx := ae hbx; replace hP := ae hP; replace hwd := ae hwd; replace hz := ae hz; replace hy := ae hy; replace hE := ae hE; replace hsk := ae hsk; replace hk9 := ae hk9; clear hst; rw [← hwa]; replace hwa := ae hwa; go_wp2
         refine bV (fun _ _ d _ _ h => by cases d <;> exact h) (fun Q' hnorm hpan => ?_)
         refine wp_region_held_drew (S := fun x => x.cell? ⟨bw, ow + k, none⟩ = some (.int .i64 z)) (by kernel_rfl) ?_ (fun hHeld => ?_)
         · try dsimp only
           rw [← hwd.out]; exact cz
         rw [← hwd.out] at hHeld ⊢; refine tk 0 90 ?_; refine tk 2 92 ?_; refine tk 3 93 ?_; refine tk 4 94 ?_; refine tk 5 95 ?_; refine tk 6 96 ?_; refine tk 7 97 ?_; refine tk 8 98 ?_; refine rd 1 (fun K hK => ?_)
         rw [if_pos (by rfl)]
         go_simp; refine hK.out _ _ ?_ (fun hHeld => ?_)
         · try dsimp only
           first | assumption | exact cz
         clear hK; try simp only [Act.put, aJ, aH, aI]
         refine rd 9 (fun K hK => ?_)
         rw [if_pos (by rfl)]
         go_simp; go_at_call 90
         (with_reducible refine hcall.mono ?_)
         rintro e w6 ⟨a2, c2, rfl, hrow, hb6⟩; have hs6 := hb6.size; replace cz := af cz hb6 (by have := hbase.out; omega)
         have hX6 : w6.heap[X]? = _ := (hb6.block X (by omega)).trans hSd.out.1
         have c6 := cell_of_heap hX6 2; have f6 := fun j => frozen_of_row w6 X j _ _ hX6
         simp at c6
         have hS7 := hSd.out.put (by omega) hb6 (by have := hbase.out; omega) hrow
         have hb7 : Below X w5 (w6.setCell ⟨X, 2, none⟩ (.slice a2 E2.length c2)) := (hbd.out.trans (hb6.mono (by omega))).setCell (p := ⟨X, 2, none⟩) (nl _) _
         have k9 : (w6.setCell ⟨X, 2, none⟩ (.slice a2 E2.length c2)).cell? ⟨bw, ow + k, none⟩ = some (.int .i64 z) := by
          rw [World.cell?_of_block (w := w6) (a := ⟨bw, ow + k, none⟩) (Below.heap_setCell _ _ _ _ (show bw ≠ X by have := hbase.out; omega))]; exact cz
         replace hX6 := ae hX6; replace hS7 := ae hS7; replace hb7 := ae hb7; replace hrow := ae hrow; replace hb6 := ae hb6; refine hK.out _ _ ?_ (fun hHeld => ?_)
         · try dsimp only
           first | assumption | exact cz
         clear hK; try simp only [Act.put, aJ, aH, aI]
         refine tk 10 100 ?_; refine rd 11 (fun K hK => ?_)
         rw [if_pos (by rfl)]
         go_simp; replace cz := k9; refine hK.out _ _ ?_ (fun hHeld => ?_)
         · try dsimp only
           first | assumption | exact cz
         clear hK; try simp only [Act.put, aJ, aH, aI]
         refine wpAnyH_done (by kernel_rfl) ?_ _
         refine hnorm _ _ ?_; clear hnorm hpan; repeat clear hHeld
         try simp only [Exit.then]
         have hst7 : Hid (∃ v', cO (w6.setCell ⟨X, 2, none⟩ (.slice a2 E2.length c2)) X w1.heap.size r (if k + 1 < n then s + ((k + 1 : Nat) : Int) else s + n - 1) v' (dD es (gJ s u v wd (k + 1)))) := ae ⟨_, by
          have hsz : (if k + 1 < n then s + ((k + 1 : Nat) : Int) else s + n - 1) = sk := by
           rw [if_neg hmid]; have := hsk.out; omega
          rw [hsz, ← hnext.out]; exact hS7.out⟩
         have hat7 : Hid (k + 1 < n → v = zt s u (k + 1)) := ae (fun h => by exact absurd h hmid)
         clear hcall cX; go_wp2; go_roundg (n - (k + 1))
         case rel => exact ⟨k + 1, v, by have := hk9.out; omega, by go_num, rfl, hat7, hst7, hb7⟩
         case measure => have := hk9.out; omega
        ·
         obtain ⟨wa, hwa⟩ := ag wr; have hSa : cO wa X w1.heap.size r sk (.slice av E.length cv) E := by rw [hwa]; exact hP
         have hba : Below X w5 wa := by rw [hwa]; exact hkb.out
         have hsa : wa.heap.size = wr.heap.size := by rw [hwa]
         have hbx := hP.1; have hbwa : Below w.heap.size w wa := hbw5.out.trans (hba.mono (by have := hbase.out; omega))
         have cza := hwc.out k hlt wa hbwa; rw [← hz] at cza; obtain ⟨wd_, hwd⟩ := ag wa.drew; have hSd : cO wd_ X w1.heap.size r sk (.slice av E.length cv) E := by rw [hwd]; exact hSa.drew
         have hsd : wd_.heap.size = wa.heap.size := by rw [hwd]; rfl
         have hbd : Below X w5 wd_ := by rw [hwd]; exact bf hba 1
         have cz : wd_.cell? ⟨bw, ow + k, none⟩ = some (.int .i64 z) := by rw [hwd]; exact cza
         have cX := cell_of_heap hSd.1 2; simp at cX
         have hcall := kJ wd_ (.slice av E.length cv) E v (-z) y hSd.read (by omega)
         obtain ⟨E2, hE2⟩ := ag (dE (v, -z, y) E); rw [← hE2] at hcall; have hnext : E2 = dD es (gJ s u v wd (k + 1)) := by
          rw [nS, jO, ← hE, hE2]; congr 1
          unfold DN eB; rw [← hy, ← hz, ← hn.out, BJ hmid]; rw [if_pos (by omega)]
         have hq1 : wrap64 (-z) = -z := by unfold wrap64; omega
         have hq2 : IntKind.i64.wrap (-z) = -z := IntWalk.i64_in _ (by omega)
         have hzpos : ¬ (0 : Int) < z := by omega
         replace hE2 := ae hE2; replace hnext := ae hnext; replace hSa := ae hSa; replace hSd := ae hSd; replace hba := ae hba; replace hbd := ae hbd; replace hbwa := ae hbwa; replace hbx := ae hbx; replace hP := ae hP; replace hwd := ae hwd; replace hz := ae hz; replace hy := ae hy; replace hE := ae hE; replace hsk := ae hsk; replace hk9 := ae hk9; clear hst; rw [← hwa]; replace hwa := ae hwa; go_wp2
         refine bV (fun _ _ d _ _ h => by cases d <;> exact h) (fun Q' hnorm hpan => ?_)
         refine wp_region_held_drew (S := fun x => x.cell? ⟨bw, ow + k, none⟩ = some (.int .i64 z)) (by kernel_rfl) ?_ (fun hHeld => ?_)
         · try dsimp only
           rw [← hwd.out]; exact cz
         rw [← hwd.out] at hHeld ⊢; refine tk 0 101 ?_; refine tk 2 103 ?_; refine tk 3 104 ?_; refine tk 4 105 ?_; refine tk 5 106 ?_; refine tk 6 107 ?_; refine tk 7 108 ?_; refine tk 8 109 ?_; refine tk 9 110 ?_; refine rd 1 (fun K hK => ?_)
         rw [if_pos (by rfl)]
         go_simp; refine hK.out _ _ ?_ (fun hHeld => ?_)
         · try dsimp only
           first | assumption | exact cz
         clear hK; try simp only [Act.put, aJ, aH, aI]
         refine rd 10 (fun K hK => ?_)
         rw [if_pos (by rfl)]
         go_simp; go_at_call 90
         (with_reducible refine hcall.mono ?_)
         rintro e w6 ⟨a2, c2, rfl, hrow, hb6⟩; have hs6 := hb6.size; replace cz := af cz hb6 (by have := hbase.out; omega)
         have hX6 : w6.heap[X]? = _ := (hb6.block X (by omega)).trans hSd.out.1
         have c6 := cell_of_heap hX6 2; have f6 := fun j => frozen_of_row w6 X j _ _ hX6
         simp at c6
         have hS7 := hSd.out.put (by omega) hb6 (by have := hbase.out; omega) hrow
         have hb7 : Below X w5 (w6.setCell ⟨X, 2, none⟩ (.slice a2 E2.length c2)) := (hbd.out.trans (hb6.mono (by omega))).setCell (p := ⟨X, 2, none⟩) (nl _) _
         have k9 : (w6.setCell ⟨X, 2, none⟩ (.slice a2 E2.length c2)).cell? ⟨bw, ow + k, none⟩ = some (.int .i64 z) := by
          rw [World.cell?_of_block (w := w6) (a := ⟨bw, ow + k, none⟩) (Below.heap_setCell _ _ _ _ (show bw ≠ X by have := hbase.out; omega))]; exact cz
         replace hX6 := ae hX6; replace hS7 := ae hS7; replace hb7 := ae hb7; replace hrow := ae hrow; replace hb6 := ae hb6; refine hK.out _ _ ?_ (fun hHeld => ?_)
         · try dsimp only
           first | assumption | exact cz
         clear hK; try simp only [Act.put, aJ, aH, aI]
         refine tk 11 112 ?_; refine rd 12 (fun K hK => ?_)
         rw [if_pos (by rfl)]
         go_simp; replace cz := k9; refine hK.out _ _ ?_ (fun hHeld => ?_)
         · try dsimp only
           first | assumption | exact cz
         clear hK; try simp only [Act.put, aJ, aH, aI]
         refine wpAnyH_done (by kernel_rfl) ?_ _
         refine hnorm _ _ ?_; clear hnorm hpan; repeat clear hHeld
         try simp only [Exit.then]
         have hst7 : Hid (∃ v', cO (w6.setCell ⟨X, 2, none⟩ (.slice a2 E2.length c2)) X w1.heap.size r (if k + 1 < n then s + ((k + 1 : Nat) : Int) else s + n - 1) v' (dD es (gJ s u v wd (k + 1)))) := ae ⟨_, by
          have hsz : (if k + 1 < n then s + ((k + 1 : Nat) : Int) else s + n - 1) = sk := by
           rw [if_neg hmid]; have := hsk.out; omega
          rw [hsz, ← hnext.out]; exact hS7.out⟩
         have hat7 : Hid (k + 1 < n → v = zt s u (k + 1)) := ae (fun h => by exact absurd h hmid)
         clear hcall cX; go_wp2; go_roundg (n - (k + 1))
         case rel => exact ⟨k + 1, v, by have := hk9.out; omega, by go_num, rfl, hat7, hst7, hb7⟩
         case measure => have := hk9.out; omega
    · obtain rfl : k = n := by omega
      have hki : ¬ (k : Int) < (k : Int) := by omega
      rw [if_neg (by omega), ← hPS9.out] at hP
      have hEP : E = PE := by rw [hE, hPE9.out]
      subst hEP; have hR0 : wr.heap[w.heap.size + 1]? = some (.cells #[.int .i64 0, .int .i64 0, .slice none 0 0] 26 (0, 0)) := by rw [hkb.out.block _ (by have := hbase.out; omega)]; exact hR9.out
      have hX9 := hP.1; have hfin := iI (w := w) (w9 := wr) (X := X) (R := w.heap.size + 1) (base := w1.heap.size) (cap := cv) (r := r) (s' := PS) (E := E) (b := true) (a := av) (by omega) (by have := hbase.out; omega) hbr hP
      have hpz9 := hpz.out; subst hpz9; obtain ⟨x0, x1, x2⟩ := ah hX9; obtain ⟨y0, y1, y2⟩ := ah hR0; have f2 := fun j => frozen_of_row wr (w.heap.size + 1) j _ _ hR0
      simp at x0 x1 x2 y0 y1 y2
      replace hfin := ae hfin; replace hR0 := ae hR0; replace hX9 := ae hX9; replace hP := ae hP; replace hk9 := ae hk9; replace hbr := ae hbr; replace hE := ae hE; clear hst; go_wp2
      (try simp only [Exit.inBlock, Exit.then])
      refine aO (x := .bool true) rfl rfl rfl (set3 hR0.out _ _ _) Tryz.underlying26 aB ?_; exact hfin.out
set_option maxRecDepth 100000 in
set_option maxHeartbeats 3200000 in
theorem Af (w : World) (r s : Int) (va vw : Value) (es : List Ed) (wd : List Int) (h : ay w.heap.size w va es) (hs : -9223372036854775808 ≤ s ∧ s ≤ 9223372036854775807) (hl : es.length ≤ 9000000) (hw : bD w.heap.size w vw wd) (hwl : wd.length ≤ 9000000) :
 Calls Tryz.prog 169 #[.agg #[.int .i64 r, .int .i64 s, va], vw] w (aS w r (rY r s es 0 wd 0) (qw r s es 0 wd 0) (xG r s es 0 wd 0)) := by
 obtain ⟨a, cap, rfl, hnc⟩ := h.form; obtain ⟨m, hm⟩ := ag es.length; have h0 := h; rw [← hm] at h; obtain ⟨w1, hw1⟩ := ag ((w.alloc (.cells #[.int .i64 r, .int .i64 s, .slice a m cap] 26)).alloc (.cells #[.int .i64 0, .int .i64 0, .slice none 0 0] 26)); have hb1 : Below w.heap.size w w1 := by rw [hw1]; exact ((Below.refl _ _).alloc (nl _) _).alloc (by simp) _
 have hs1 : w1.heap.size = w.heap.size + 1 + 1 := by rw [hw1]; simp
 have hg := dH w (.cells #[.int .i64 r, .int .i64 s, .slice a m cap] 26) (.cells #[.int .i64 0, .int .i64 0, .slice none 0 0] 26); have hk := heap_alloc_new (w.alloc (.cells #[.int .i64 r, .int .i64 s, .slice a m cap] 26)) (.cells #[.int .i64 0, .int .i64 0, .slice none 0 0] 26); rw [← hw1] at hg hk; rw [show (w.alloc (.cells #[.int .i64 r, .int .i64 s, .slice a m cap] 26)).heap.size = w.heap.size + 1 by simp] at hk
 have g0 : w1.cell? ⟨w.heap.size, 0, none⟩ = some (.int .i64 r) := by simpa using cell_of_heap hg 0
 have g1 : w1.cell? ⟨w.heap.size, 1, none⟩ = some (.int .i64 s) := by simpa using cell_of_heap hg 1
 have g2 : w1.cell? ⟨w.heap.size, 2, none⟩ = some (.slice a m cap) := by simpa using cell_of_heap hg 2
 have hcall := CZ w1 r s 0 0 _ _ es wd ((h0.below hb1).mono hb1.size) hs (by omega) ((hw.below hb1).mono hb1.size) (by omega)
 obtain ⟨PS, hPS⟩ := ag (rY r s es 0 wd 0); obtain ⟨PE, hPE⟩ := ag (qw r s es 0 wd 0); obtain ⟨B, hB⟩ := ag (xG r s es 0 wd 0); rw [← hPS, ← hPE, ← hB, ← hm] at hcall; rw [← hPS, ← hPE, ← hB, ← hm]; obtain ⟨aw, mw, cw, rfl⟩ : ∃ a m c, vw = Value.slice a m c := by obtain ⟨_, a, c, e, _⟩ := hw; exact ⟨_, _, _, e⟩
 replace hm := ae hm; replace hPS := ae hPS; replace hPE := ae hPE; replace hB := ae hB; replace h := ae h; replace h0 := ae h0; replace hw := ae hw; replace hg := ae hg; replace hk := ae hk; replace hnc := ae hnc; replace hs1 := ae hs1; go_enter Tryz.func169, Tryz.ntmps169
 go_upto_region 1 with fail
 rw [← hw1]; replace hw1 := ae hw1; go_wp2_with fail; refine hcall.mono ?_; rintro e w2 ⟨b, cap2, rfl, hrow2, hb2⟩; clear hcall; have hs2 := hb2.size; obtain ⟨N, hN⟩ := ag PE.length; rw [← hN] at hrow2 ⊢; have hbw2 : Below w.heap.size w w2 := hb1.trans (hb2.mono hb1.size); have hR2 : w2.heap[w.heap.size + 1]? = some (.cells #[.int .i64 0, .int .i64 0, .slice none 0 0] 26 (0, 0)) := by rw [hb2.block _ (by have := hs1.out; omega)]; exact hk.out
 obtain ⟨w3, hw3⟩ := ag (w2.alloc (.cells #[.int .i64 r, .int .i64 PS, .slice b N cap2] 26)); have hb3 : Below w2.heap.size w2 w3 := by rw [hw3]; exact (Below.refl _ _).alloc (nl _) _
 obtain ⟨x0, x1, x2⟩ := bT hw3; have hs3 := hb3.size; have hR3 : w3.heap[w.heap.size + 1]? = some (.cells #[.int .i64 0, .int .i64 0, .slice none 0 0] 26 (0, 0)) := by rw [hb3.block _ (by have := hs1.out; omega)]; exact hR2
 have hrow3 : aF 36 3 w3 w1.heap.size w2.heap.size (.slice b N cap2) N (aC PE) := hrow2.below hb3 (nl _); have hbw3 : Below w.heap.size w w3 := hbw2.trans (hb3.mono (by have := hbw2.size; omega))
 have hfin : aS w r PS PE B (.returned (.tuple #[.agg #[.int .i64 r, .int .i64 PS, .slice b N cap2], .bool B])) (((w3.setCell ⟨w.heap.size + 1, 0, none⟩ (.int .i64 r)).setCell ⟨w.heap.size + 1, 1, none⟩ (.int .i64 PS)).setCell ⟨w.heap.size + 1, 2, none⟩ (.slice b N cap2)) := by
  have hs := hs1.out; refine ⟨b, cap2, by rw [hN], ?_, aN hbw3 (by omega)⟩
  rw [← hN]; exact aF.wide (hrow3.set3_ (.inl (by omega))) (by omega) (by rw [aW]; omega)
 obtain ⟨y0, y1, y2⟩ := ah hR3; have f2 := fun j => frozen_of_row w3 (w.heap.size + 1) j _ _ hR3
 simp at y0 y1 y2
 replace hfin := ae hfin; replace hR2 := ae hR2; replace hR3 := ae hR3; replace hrow2 := ae hrow2; replace hrow3 := ae hrow3; replace hN := ae hN; clear g0 g1 g2; go_upto_region 2 with fail
 rw [← hw3]; replace hw3 := ae hw3; go_wp2
 (try simp only [Exit.inBlock, Exit.then])
 refine aO (x := .bool B) rfl rfl rfl (set3 hR3.out _ _ _) Tryz.underlying26 aB ?_; exact hfin.out
def yQ (r : Int) (p : Int × List Ed) (w : List Int) : Int × List Ed := (rY r p.1 p.2 0 w 0, qw r p.1 p.2 0 w 0)
def fK (r : Int) (zss : List (List Int)) : Int × List Ed := zss.foldl (yQ r) (1, [])
theorem y5 {r : Int} {zss : List (List Int)} {k : Nat} (h : k < zss.length) : fK r (zss.take (k + 1)) = yQ r (fK r (zss.take k)) (zss.getD k []) := by
 unfold fK; rw [List.take_add_one, gE h, Option.toList_some, List.foldl_append, gD, gE h]; rfl
theorem I5 {r : Int} {p : Int × List Ed} {w : List Int} (h : 1 ≤ p.1 ∧ p.1 ≤ 40) : 1 ≤ (yQ r p w).1 ∧ (yQ r p w).1 ≤ 40 := by
 unfold yQ rY; simp only
 split
 · rename_i ht
   obtain ⟨_, _, _, _, h5, h6, _⟩ := KU ht; omega
 · exact h
theorem rX (r : Int) (zss : List (List Int)) : ∀ k, k ≤ zss.length → (1 ≤ (fK r (zss.take k)).1 ∧ (fK r (zss.take k)).1 ≤ 40) ∧ (fK r (zss.take k)).2.length ≤ dP ((zss.map List.length).take k) := by
 intro k
 induction k with
 | zero => intro _; exact ⟨⟨by simp [fK], by simp [fK]⟩, by simp [fK, dP]⟩
 | succ k ih =>
  intro hk; obtain ⟨h1, h2⟩ := ih (by omega)
  rw [y5 (by omega), yV (by omega)]
  refine ⟨I5 h1, ?_⟩; have := Dh r (fK r (zss.take k)).1 (fK r (zss.take k)).2 0 (zss.getD k []) 0; unfold yQ; simp only
  omega
def lS (r : Int) (zss : List (List Int)) : Int := if jy r zss = true then r else 0
def mG (r : Int) (zss : List (List Int)) : Int := if jy r zss = true then (fK r zss).1 else 0
def lg (r : Int) (zss : List (List Int)) : List Ed := if jy r zss = true then (fK r zss).2 else []
theorem Cc (r : Int) (zss : List (List Int)) : (lg r zss).length ≤ jF zss := by
 unfold lg; split
 · have := (rX r zss zss.length (nl _)).2
   rw [List.take_length, List.take_of_length_le (by rw [List.length_map]; omega)] at this
   exact this
 · simp
theorem cO.set3 {w w' : World} {X base : Nat} {r sz r' sz' : Int} {v v' : Value} {E E' : List Ed} (h : cO w X base r sz v E) (hX : X < w.heap.size) (hb : Below w.heap.size w w') (hbase : base ≤ w.heap.size) (hr : aF 36 3 w' w.heap.size w'.heap.size v' E'.length (aC E')) :
 cO (((w'.setCell ⟨X, 0, none⟩ (.int .i64 r')).setCell ⟨X, 1, none⟩ (.int .i64 sz')).setCell ⟨X, 2, none⟩ v') X base r' sz' v' E' := by
 obtain ⟨h1, lo, hi, h2, h3, h4, h5⟩ := h; have hx : w'.heap[X]? = some (.cells #[.int .i64 r, .int .i64 sz, v] 26 (0, 0)) := by rw [hb.block X hX]; exact h1
 refine ⟨Go.Proofs.YtgnomlcjikfdhaaGreat.set3 hx _ _ _, w.heap.size, w'.heap.size, hr.keep (fun k q1 q2 => ?_), hbase, by rw [ja]; exact nl _, .inr hX⟩
 have hk : k ≠ X := by omega
 rw [Below.heap_setCell _ _ _ _ hk, Below.heap_setCell _ _ _ _ hk, Below.heap_setCell _ _ _ _ hk]
set_option maxRecDepth 100000 in
set_option maxHeartbeats 6400000 in
theorem Eo (w : World) (r : Int) (v : Value) (zss : List (List Int)) (h : dJ w.heap.size w v zss) (hs : jF zss ≤ 1048576) :
 Calls Tryz.prog 155 #[.int .i64 r, v] w (aS w (lS r zss) (mG r zss) (lg r zss) (jy r zss)) := by
 have h' := h; obtain ⟨hl, a, cap, rfl, _, _⟩ := h'; obtain ⟨n, hn⟩ := ag zss.length; obtain ⟨w1, hw1⟩ := ag (w.alloc (.cells #[.int .i64 0, .int .i64 0, .slice none 0 0] 26)); have hb1 : Below w.heap.size w w1 := by rw [hw1]; exact (Below.refl _ _).alloc (nl _) _
 have hs1 : w1.heap.size = w.heap.size + 1 := by rw [hw1]; simp
 have hk := heap_alloc_new w (.cells #[.int .i64 0, .int .i64 0, .slice none 0 0] 26); rw [← hw1] at hk; have hare := Jd w1 w.heap.size (.slice a zss.length cap) zss r (h.below hb1) (by omega)
 rw [← hn] at hare h hl; have hfull : zss.take n = zss := List.take_of_length_le (by omega)
 obtain ⟨B, hB⟩ := ag (jy r zss); have hr13 : B = true → 1 ≤ r ∧ r ≤ 3 := fun hh => by
  rw [hB] at hh; unfold jy at hh; rw [decide_eq_true_eq] at hh; exact ⟨hh.2.1, hh.2.2.1⟩
 obtain ⟨FR, hFR⟩ := ag (lS r zss); obtain ⟨FZ, hFZ⟩ := ag (mG r zss); obtain ⟨FE, hFE⟩ := ag (lg r zss); have hno : B = false → FR = 0 ∧ FZ = 0 ∧ FE = [] := fun hh => by
  rw [hFR, hFZ, hFE]; unfold lS mG lg; rw [← hB, hh]; exact ⟨rfl, rfl, rfl⟩
 have hyes : B = true → FR = r ∧ FZ = (fK r (zss.take n)).1 ∧ FE = (fK r (zss.take n)).2 := fun hh => by
  rw [hFR, hFZ, hFE, hfull]; unfold lS mG lg; rw [← hB, hh]; exact ⟨rfl, rfl, rfl⟩
 rw [← hB] at hare; rw [← hn, ← hB, ← hFR, ← hFZ, ← hFE]; have hzl : ∀ i, i < n → (zss.getD i []).length ≤ 1048576 := fun i hi => by
  have h1 := pV (zss.map List.length) i (by rw [List.length_map]; omega)
  rw [kw] at h1; have h2 : dP (zss.map List.length) = jF zss := rfl; omega
 have hlim : ∀ k, k ≤ n → (1 ≤ (fK r (zss.take k)).1 ∧ (fK r (zss.take k)).1 ≤ 40) ∧ (fK r (zss.take k)).2.length ≤ 1048576 := fun k hk => by
  obtain ⟨h1, h2⟩ := rX r zss k (by omega)
  have h3 := Dt (zss.map List.length) k; have h4 : dP (zss.map List.length) = jF zss := rfl; exact ⟨h1, by omega⟩
 replace hn := ae hn; replace hB := ae hB; replace hFR := ae hFR; replace hFZ := ae hFZ; replace hFE := ae hFE; replace hno := ae hno; replace hyes := ae hyes; replace hzl := ae hzl; replace hlim := ae hlim; replace hr13 := ae hr13; replace h := ae h; replace hk := ae hk; replace hs1 := ae hs1; replace hfull := ae hfull; go_enter Tryz.func155, Tryz.ntmps155
 go_upto_region 1 with fail
 rw [← hw1]; replace hw1 := ae hw1; go_wp2_with fail; refine hare.mono ?_; rintro e w2 ⟨rfl, m2, hw2⟩; have hb2 : Below w1.heap.size w1 w2 := by rw [hw2]; exact bf (Below.refl _ _) _
 replace hw2 := ae hw2; clear hare; have hs2 := hb2.size; have hR2 : w2.heap[w.heap.size]? = some (.cells #[.int .i64 0, .int .i64 0, .slice none 0 0] 26 (0, 0)) := by rw [hb2.block _ (by have := hs1.out; omega)]; exact hk.out
 have hbw2 : Below w.heap.size w w2 := hb1.trans (hb2.mono hb1.size)
 cases B with
 | false =>
  obtain ⟨e1, e2, e3⟩ := hno.out rfl; subst e1; subst e2; subst e3; obtain ⟨y0, y1, y2⟩ := ah hR2; have f2 := fun j => frozen_of_row w2 w.heap.size j _ _ hR2
  simp at y0 y1 y2
  have hfin : aS w 0 0 [] false (.returned (.tuple #[.agg #[.int .i64 0, .int .i64 0, .slice none 0 0], .bool false])) (((w2.setCell ⟨w.heap.size, 0, none⟩ (.int .i64 0)).setCell ⟨w.heap.size, 1, none⟩ (.int .i64 0)).setCell ⟨w.heap.size, 2, none⟩ (.slice none 0 0)) :=
   ⟨none, 0, rfl, ⟨rfl, by simp, .inl ⟨rfl, rfl⟩⟩, aN hbw2 (nl _)⟩
  replace hfin := ae hfin; replace hR2 := ae hR2; go_wp2
  (try simp only [Exit.inBlock, Exit.then])
  refine aO (x := .bool false) rfl rfl rfl (Go.Proofs.YtgnomlcjikfdhaaGreat.set3 hR2.out _ _ _) Tryz.underlying26 aB ?_; exact hfin.out
 | true =>
  obtain ⟨e1, e2, e3⟩ := hyes.out rfl; have hr := hr13.out rfl; have hnew := vX w2 r; rw [if_pos hr, if_pos hr, decide_eq_true hr] at hnew; replace hR2 := ae hR2; go_wp2_with fail; refine hnew.mono ?_; rintro e w3 ⟨b3, c3, rfl, hrow3, hb3⟩; clear hnew; have hs3 := hb3.size; obtain ⟨w4, hw4⟩ := ag (w3.alloc (.cells #[.int .i64 r, .int .i64 1, .slice b3 ([] : List Ed).length c3] 26)); have hb4 : Below w3.heap.size w3 w4 := by rw [hw4]; exact (Below.refl _ _).alloc (nl _) _
  have hs4 : w4.heap.size = w3.heap.size + 1 := by rw [hw4]; simp
  obtain ⟨X, hX⟩ := ag w3.heap.size; have hX4 : w4.heap[X]? = some (.cells #[.int .i64 r, .int .i64 1, .slice b3 ([] : List Ed).length c3] 26 (0, 0)) := by rw [hw4, hX]; exact heap_alloc_new _ _
  have hst4 : cO w4 X w1.heap.size r 1 (.slice b3 ([] : List Ed).length c3) [] := ⟨hX4, w2.heap.size, w3.heap.size, hrow3.below hb4 (nl _), hs2, by omega, .inl (by omega)⟩
  have hbw4 : Below w.heap.size w w4 := (hbw2.trans (hb3.mono hbw2.size)).trans (hb4.mono (by have := hbw2.size; omega))
  have hR4 : w4.heap[w.heap.size]? = some (.cells #[.int .i64 0, .int .i64 0, .slice none 0 0] 26 (0, 0)) := by
   rw [hb4.block _ (by have := hs1.out; omega), hb3.block _ (by have := hs1.out; omega)]; exact hR2.out
  have hbX : w1.heap.size ≤ X := by omega
  have hX4s : X < w4.heap.size := by omega
  have hst0 : Hid (∃ v', cO w4 X w1.heap.size r (fK r (zss.take 0)).1 v' (fK r (zss.take 0)).2) := ae ⟨_, hst4⟩; have hk0 : Hid (Below X w4 w4) := ae (Below.refl _ _); replace hX4 := ae hX4; replace hst4 := ae hst4; replace hbw4 := ae hbw4; replace hR4 := ae hR4; replace hrow3 := ae hrow3; replace hs4 := ae hs4; replace e2 := ae e2; replace e3 := ae e3; subst e1; go_upto_region 4 with fail
  try simp only [List.length_nil] at hw4
  rw [← hw4, ← hX]; replace hw4 := ae hw4; replace hX := ae hX; clear hb4; go_wp2
  go_loopg [8, 9, 10] n (fun gg i x1 x2 wr => ∃ k : Nat, k + gg = n ∧ i = .int .i64 k ∧ Hid (∃ v', cO wr X w1.heap.size FR (fK FR (zss.take k)).1 v' (fK FR (zss.take k)).2) ∧ Hid (Below X w4 wr))
  case atStart => exact ⟨0, by omega, rfl, hst0, hk0⟩
  case round =>
   clear hst0 hk0; obtain ⟨k, hk9, rfl, hst, hkb⟩ := hrel; obtain ⟨v6, hP⟩ := hst.out; obtain ⟨hl1, hl2⟩ := hlim.out k (by omega)
   obtain ⟨sz, hsz⟩ := ag ((fK FR (zss.take k)).1); obtain ⟨E, hE⟩ := ag ((fK FR (zss.take k)).2); rw [← hsz, ← hE] at hP; rw [← hsz] at hl1; rw [← hE] at hl2; obtain ⟨av, cv, rfl⟩ := hP.form; have hbr : Below w.heap.size w wr := hbw4.out.trans (hkb.out.mono (by have := hs1.out; omega))
   have hXr : X < wr.heap.size := by have := hkb.out.size; omega
   have hX9 := hP.1; obtain ⟨x0, x1, x2⟩ := ah hX9; simp at x0 x1 x2
   by_cases hlt : k < n
   · have hki : (k : Int) < (n : Int) := by omega
     obtain ⟨bu, ou, u, rfl, hbu, cu, ru⟩ := h.out.at_ k (by have := hn.out; omega)
     have cur := af cu hbr hbu; obtain ⟨z, hz⟩ := ag (zss.getD k []); have hzl9 := hzl.out k hlt; rw [← hz] at ru hzl9; have hstep := y5 (r := FR) (zss := zss) (k := k) (by have := hn.out; omega)
     obtain ⟨N, hN⟩ := ag E.length; obtain ⟨PS, hPS⟩ := ag (rY FR sz E 0 z 0); obtain ⟨PE, hPE⟩ := ag (qw FR sz E 0 z 0); obtain ⟨PB, hPB⟩ := ag (xG FR sz E 0 z 0); have hnx1 : (fK FR (zss.take (k + 1))).1 = PS := by rw [hstep, ← hz, hPS, hsz, hE]; rfl
     have hnx2 : (fK FR (zss.take (k + 1))).2 = PE := by rw [hstep, ← hz, hPE, hsz, hE]; rfl
     obtain ⟨wd_, hwd⟩ := ag wr.drew; have hSd : cO wd_ X w1.heap.size FR sz (.slice av E.length cv) E := by rw [hwd]; exact hP.drew
     have hsd : wd_.heap.size = wr.heap.size := by rw [hwd]; rfl
     have hbd : Below X w4 wd_ := by rw [hwd]; exact bf hkb.out 1
     have hbrd : Below w.heap.size w wd_ := by rw [hwd]; exact bf hbr 1
     have d0 : wd_.cell? ⟨X, 0, none⟩ = some (.int .i64 FR) := by rw [hwd]; exact x0
     have d1 : wd_.cell? ⟨X, 1, none⟩ = some (.int .i64 sz) := by rw [hwd]; exact x1
     have d2 : wd_.cell? ⟨X, 2, none⟩ = some (.slice av N cv) := by rw [hwd, hN]; exact x2
     have du : wd_.cell? ⟨bu, ou + k, none⟩ = some u := by rw [hwd]; exact cur
     have hcall := fun W (hW : Below wd_.heap.size wd_ W) => Af W FR sz (.slice av E.length cv) u E z ((hSd.read.below hW).mono hW.size) (by omega) (by omega) (((ru.below hbrd).below (hW.mono (by have := hbrd.size; omega))).mono (by have := hbrd.size; have := hW.size; omega)) (by omega)
     simp only [← hPS, ← hPE, ← hPB, ← hN] at hcall; rw [← hN] at hX9 hP hSd x2; have hXd : X < wd_.heap.size := by omega
     replace hsd := ae hsd; replace hsz := ae hsz; replace hE := ae hE; replace hz := ae hz; replace hstep := ae hstep; replace hN := ae hN; replace hPS := ae hPS; replace hPE := ae hPE; replace hPB := ae hPB; replace hnx1 := ae hnx1; replace hnx2 := ae hnx2; replace hX9 := ae hX9; replace hP := ae hP; replace hbr := ae hbr; replace hk9 := ae hk9; replace ru := ae ru; replace hwd := ae hwd; clear hst cu
     go_wp2; refine bV (fun _ _ d _ _ h => by cases d <;> exact h) (fun Q' hnorm hpan => ?_)
     refine wp_region_held_drew (S := (fun x => x.cell? ⟨X, 0, none⟩ = some (.int .i64 FR) ∧ x.cell? ⟨X, 1, none⟩ = some (.int .i64 sz) ∧ x.cell? ⟨X, 2, none⟩ = some (.slice av N cv) ∧ x.cell? ⟨bu, ou + k, none⟩ = some u)) (by kernel_rfl) ?_ (fun hHeld => ?_)
     · try dsimp only
       rw [← hwd.out]
       ((repeat' apply And.intro) <;> assumption)
     rw [← hwd.out] at hHeld ⊢; clear x0 x1 x2 cur; refine tk 0 28 ?_; refine tk 1 29 ?_; refine tk 2 30 ?_; refine tk 3 31 ?_; refine tk 4 32 ?_; refine wpAnyH_ready (rs := [5, 9]) (by kernel_rfl) (by simp) ?_
     refine AllReadyH.cons rfl (fun K hK => ?_) ?_
     · rw [if_pos (by rfl)]
       go_simp; go_at_call 169
       (with_reducible refine (hcall wd_ (Below.refl _ _)).mono ?_)
       rintro e w6 ⟨a6, c6, rfl, hrow6, hb6⟩; have hs6 := hb6.size; replace d0 := af d0 hb6 (by omega)
       replace d1 := af d1 hb6 (by omega)
       replace d2 := af d2 hb6 (by omega)
       replace du := af du hb6 (by have := hbrd.size; omega)
       refine hK.out _ _ ?_ (fun hHeld => ?_)
       · try dsimp only
         ((repeat' apply And.intro) <;> assumption)
       clear hK; try simp only [Act.put, aJ, aH, aI]
       have hX6 : w6.heap[X]? = some (.cells #[.int .i64 FR, .int .i64 sz, .slice av N cv] 26 (0, 0)) := by rw [hb6.block X (by omega)]; exact hSd.1
       refine tk 6 27 ?_; refine tk 7 34 ?_; refine tk 8 35 ?_; refine rd 9 (fun K hK => ?_)
       rw [if_pos (by rfl)]
       obtain ⟨wb, hw_wb⟩ := ag (w6.alloc (.cells #[.int .i64 0, .int .i64 0, .slice none 0 0] 26)); have hb_wb : Below w6.heap.size w6 wb := by rw [hw_wb]; exact (Below.refl _ _).alloc (nl _) _
       have hs_wb : wb.heap.size = w6.heap.size + 1 := by rw [hw_wb]; simp
       have hn_wb := heap_alloc_new w6 (.cells #[.int .i64 0, .int .i64 0, .slice none 0 0] 26); rw [← hw_wb] at hn_wb; go_simp; rw [← hw_wb]; replace hw_wb := ae hw_wb; replace d0 := af d0 hb_wb (by omega)
       replace d1 := af d1 hb_wb (by omega)
       replace d2 := af d2 hb_wb (by omega)
       replace du := af du hb_wb (by have := hbrd.size; omega)
       refine hK.out _ _ ?_ (fun hHeld => ?_)
       · try dsimp only
         ((repeat' apply And.intro) <;> assumption)
       clear hK; try simp only [Act.put, aJ, aH, aI]
       have hBx := hn_wb; have hXx : wb.heap[X]? = some (.cells #[.int .i64 FR, .int .i64 sz, .slice av N cv] 26 (0, 0)) := by rw [hb_wb.block X (by omega)]; exact hX6
       have hbx : Below X w4 wb := (hbd.trans (hb6.mono (by omega))).trans (hb_wb.mono (by omega))
       have hS6 : ∀ w8 : World, w8.heap.size = wb.heap.size → (∀ q, q ≠ w6.heap.size → w8.heap[q]? = wb.heap[q]?) → cO (((w8.setCell ⟨X, 0, none⟩ (.int .i64 FR)).setCell ⟨X, 1, none⟩ (.int .i64 PS)).setCell ⟨X, 2, none⟩ (.slice a6 PE.length c6)) X w1.heap.size FR PS (.slice a6 PE.length c6) PE := fun w8 h8 ho => by
        have hx8 : w8.heap[X]? = some (.cells #[.int .i64 FR, .int .i64 sz, .slice av N cv] 26 (0, 0)) := by rw [ho X (by omega)]; exact hXx
        refine ⟨Go.Proofs.YtgnomlcjikfdhaaGreat.set3 hx8 _ _ _, wd_.heap.size, w6.heap.size, (hrow6.keep (fun q q1 q2 => ?_)), by omega, by rw [ja]; omega, .inr (by omega)⟩
        have hq : q ≠ X := by omega
        rw [Below.heap_setCell _ _ _ _ hq, Below.heap_setCell _ _ _ _ hq, Below.heap_setCell _ _ _ _ hq, ho q (by omega), hb_wb.block q (by omega)]
       obtain ⟨M, hM⟩ := ag PE.length; rw [← hM] at hrow6 hS6 ⊢; replace hM := ae hM; obtain ⟨l0, l1, l2⟩ := ah hBx; have fl := fun j => frozen_of_row wb w6.heap.size j _ _ hBx
       simp at l0 l1 l2
       obtain ⟨w8, hw8⟩ := ag ((((wb.setCell ⟨w6.heap.size, 0, none⟩ (.int .i64 FR)).setCell ⟨w6.heap.size, 1, none⟩ (.int .i64 PS)).setCell ⟨w6.heap.size, 2, none⟩ (.slice a6 M c6))); have hB8 : w8.heap[w6.heap.size]? = some (.cells #[.int .i64 FR, .int .i64 PS, .slice a6 M c6] 26 (0, 0)) := by rw [hw8]; exact Go.Proofs.YtgnomlcjikfdhaaGreat.set3 hBx _ _ _
       have ho8 : ∀ q, q ≠ w6.heap.size → w8.heap[q]? = wb.heap[q]? := fun q hq => by rw [hw8]; exact dS hq
       have hs8 : w8.heap.size = wb.heap.size := by rw [hw8]; exact ja
       have hb8 : Below X w4 w8 := by rw [hw8]; exact aN hbx (by omega)
       have hX8 : w8.heap[X]? = some (.cells #[.int .i64 FR, .int .i64 sz, .slice av N cv] 26 (0, 0)) := by rw [ho8 X (by omega)]; exact hXx
       replace d0 := by simpa using cell_of_heap hX8 0
       replace d1 := by simpa using cell_of_heap hX8 1
       replace d2 := by simpa using cell_of_heap hX8 2
       replace du := by simpa using (World.cell?_of_block (w := wb) (a := ⟨bu, ou + k, none⟩) (ho8 bu (by have := hbrd.size; omega))).trans du
       have hS8 := hS6 w8 hs8 ho8; replace hBx := ae hBx; replace hrow6 := ae hrow6; replace hS6 := ae hS6; replace hXx := ae hXx; refine rd 10 (fun K hK => ?_)
       rw [if_pos (by rfl)]
       go_simp; rw [← hw8]; replace hw8 := ae hw8; refine hK.out _ _ ?_ (fun hHeld => ?_)
       · try dsimp only
         ((repeat' apply And.intro) <;> assumption)
       clear hK; try simp only [Act.put, aJ, aH, aI]
       refine tk 11 10 ?_; refine wpAnyH_done (by kernel_rfl) ?_ _
       refine hnorm _ _ ?_; clear hnorm hpan; repeat clear hHeld
       try simp only [Exit.then]
       clear l0 l1 l2 fl; obtain ⟨z0, z1, z2⟩ := ah hB8; have fz := fun j => frozen_of_row w8 X j _ _ hX8
       simp at z0 z1 z2
       have hst7 : Hid (∃ v', cO (((w8.setCell ⟨X, 0, none⟩ (.int .i64 FR)).setCell ⟨X, 1, none⟩ (.int .i64 PS)).setCell ⟨X, 2, none⟩ (.slice a6 M c6)) X w1.heap.size FR (fK FR (zss.take (k + 1))).1 v' (fK FR (zss.take (k + 1))).2) := ae ⟨_, by rw [hnx1.out, hnx2.out]; exact hS8⟩
       have hb7 : Hid (Below X w4 (((w8.setCell ⟨X, 0, none⟩ (.int .i64 FR)).setCell ⟨X, 1, none⟩ (.int .i64 PS)).setCell ⟨X, 2, none⟩ (.slice a6 M c6))) := ae (aN hb8 (nl _)); replace hX8 := ae hX8; replace hB8 := ae hB8; clear hS8 hb8 ho8; go_wp2; go_roundg (n - (k + 1))
       case rel => exact ⟨k + 1, by have := hk9.out; omega, by go_num, hst7, hb7⟩
       case measure => have := hk9.out; omega
     refine AllReadyH.cons rfl (fun K hK => ?_) AllReadyH.nil
     rw [if_pos (by rfl)]
     obtain ⟨wb, hw_wb⟩ := ag (wd_.alloc (.cells #[.int .i64 0, .int .i64 0, .slice none 0 0] 26)); have hb_wb : Below wd_.heap.size wd_ wb := by rw [hw_wb]; exact (Below.refl _ _).alloc (nl _) _
     have hs_wb : wb.heap.size = wd_.heap.size + 1 := by rw [hw_wb]; simp
     have hn_wb := heap_alloc_new wd_ (.cells #[.int .i64 0, .int .i64 0, .slice none 0 0] 26); rw [← hw_wb] at hn_wb; go_simp; rw [← hw_wb]; replace hw_wb := ae hw_wb; replace d0 := af d0 hb_wb (by omega)
     replace d1 := af d1 hb_wb (by omega)
     replace d2 := af d2 hb_wb (by omega)
     replace du := af du hb_wb (by have := hbrd.size; omega)
     refine hK.out _ _ ?_ (fun hHeld => ?_)
     · try dsimp only
       ((repeat' apply And.intro) <;> assumption)
     clear hK; try simp only [Act.put, aJ, aH, aI]
     refine rd 5 (fun K hK => ?_)
     rw [if_pos (by rfl)]
     go_simp; go_at_call 169
     (with_reducible refine (hcall wb hb_wb).mono ?_)
     rintro e w6 ⟨a6, c6, rfl, hrow6, hb6⟩; have hs6 := hb6.size; replace d0 := af d0 hb6 (by omega)
     replace d1 := af d1 hb6 (by omega)
     replace d2 := af d2 hb6 (by omega)
     replace du := af du hb6 (by have := hbrd.size; omega)
     refine hK.out _ _ ?_ (fun hHeld => ?_)
     · try dsimp only
       ((repeat' apply And.intro) <;> assumption)
     clear hK; try simp only [Act.put, aJ, aH, aI]
     refine tk 6 27 ?_; refine tk 7 34 ?_; refine tk 8 35 ?_; have hBx : w6.heap[wd_.heap.size]? = some (.cells #[.int .i64 0, .int .i64 0, .slice none 0 0] 26 (0, 0)) := by rw [hb6.block _ (by omega)]; exact hn_wb
     have hXx : w6.heap[X]? = some (.cells #[.int .i64 FR, .int .i64 sz, .slice av N cv] 26 (0, 0)) := by rw [hb6.block X (by omega), hb_wb.block X (by omega)]; exact hSd.1
     have hbx : Below X w4 w6 := (hbd.trans (hb_wb.mono (by omega))).trans (hb6.mono (by omega))
     have hS6 : ∀ w8 : World, w8.heap.size = w6.heap.size → (∀ q, q ≠ wd_.heap.size → w8.heap[q]? = w6.heap[q]?) → cO (((w8.setCell ⟨X, 0, none⟩ (.int .i64 FR)).setCell ⟨X, 1, none⟩ (.int .i64 PS)).setCell ⟨X, 2, none⟩ (.slice a6 PE.length c6)) X w1.heap.size FR PS (.slice a6 PE.length c6) PE := fun w8 h8 ho => by
      have hx8 : w8.heap[X]? = some (.cells #[.int .i64 FR, .int .i64 sz, .slice av N cv] 26 (0, 0)) := by rw [ho X (by omega)]; exact hXx
      refine ⟨Go.Proofs.YtgnomlcjikfdhaaGreat.set3 hx8 _ _ _, wb.heap.size, w6.heap.size, (hrow6.keep (fun q q1 q2 => ?_)), by omega, by rw [ja]; omega, .inr (by omega)⟩
      have hq : q ≠ X := by omega
      rw [Below.heap_setCell _ _ _ _ hq, Below.heap_setCell _ _ _ _ hq, Below.heap_setCell _ _ _ _ hq, ho q (by omega)]
     obtain ⟨M, hM⟩ := ag PE.length; rw [← hM] at hrow6 hS6 ⊢; replace hM := ae hM; obtain ⟨l0, l1, l2⟩ := ah hBx; have fl := fun j => frozen_of_row w6 wd_.heap.size j _ _ hBx
     simp at l0 l1 l2
     obtain ⟨w8, hw8⟩ := ag ((((w6.setCell ⟨wd_.heap.size, 0, none⟩ (.int .i64 FR)).setCell ⟨wd_.heap.size, 1, none⟩ (.int .i64 PS)).setCell ⟨wd_.heap.size, 2, none⟩ (.slice a6 M c6))); have hB8 : w8.heap[wd_.heap.size]? = some (.cells #[.int .i64 FR, .int .i64 PS, .slice a6 M c6] 26 (0, 0)) := by rw [hw8]; exact Go.Proofs.YtgnomlcjikfdhaaGreat.set3 hBx _ _ _
     have ho8 : ∀ q, q ≠ wd_.heap.size → w8.heap[q]? = w6.heap[q]? := fun q hq => by rw [hw8]; exact dS hq
     have hs8 : w8.heap.size = w6.heap.size := by rw [hw8]; exact ja
     have hb8 : Below X w4 w8 := by rw [hw8]; exact aN hbx (by omega)
     have hX8 : w8.heap[X]? = some (.cells #[.int .i64 FR, .int .i64 sz, .slice av N cv] 26 (0, 0)) := by rw [ho8 X (by omega)]; exact hXx
     replace d0 := by simpa using cell_of_heap hX8 0
     replace d1 := by simpa using cell_of_heap hX8 1
     replace d2 := by simpa using cell_of_heap hX8 2
     replace du := by simpa using (World.cell?_of_block (w := w6) (a := ⟨bu, ou + k, none⟩) (ho8 bu (by have := hbrd.size; omega))).trans du
     have hS8 := hS6 w8 hs8 ho8; replace hBx := ae hBx; replace hrow6 := ae hrow6; replace hS6 := ae hS6; replace hXx := ae hXx; refine rd 10 (fun K hK => ?_)
     rw [if_pos (by rfl)]
     go_simp; rw [← hw8]; replace hw8 := ae hw8; refine hK.out _ _ ?_ (fun hHeld => ?_)
     · try dsimp only
       ((repeat' apply And.intro) <;> assumption)
     clear hK; try simp only [Act.put, aJ, aH, aI]
     refine tk 11 10 ?_; refine wpAnyH_done (by kernel_rfl) ?_ _
     refine hnorm _ _ ?_; clear hnorm hpan; repeat clear hHeld
     try simp only [Exit.then]
     clear l0 l1 l2 fl; obtain ⟨z0, z1, z2⟩ := ah hB8; have fz := fun j => frozen_of_row w8 X j _ _ hX8
     simp at z0 z1 z2
     have hst7 : Hid (∃ v', cO (((w8.setCell ⟨X, 0, none⟩ (.int .i64 FR)).setCell ⟨X, 1, none⟩ (.int .i64 PS)).setCell ⟨X, 2, none⟩ (.slice a6 M c6)) X w1.heap.size FR (fK FR (zss.take (k + 1))).1 v' (fK FR (zss.take (k + 1))).2) := ae ⟨_, by rw [hnx1.out, hnx2.out]; exact hS8⟩
     have hb7 : Hid (Below X w4 (((w8.setCell ⟨X, 0, none⟩ (.int .i64 FR)).setCell ⟨X, 1, none⟩ (.int .i64 PS)).setCell ⟨X, 2, none⟩ (.slice a6 M c6))) := ae (aN hb8 (nl _)); replace hX8 := ae hX8; replace hB8 := ae hB8; clear hS8 hb8 ho8; go_wp2; go_roundg (n - (k + 1))
     case rel => exact ⟨k + 1, by have := hk9.out; omega, by go_num, hst7, hb7⟩
     case measure => have := hk9.out; omega
   · obtain rfl : k = n := by omega
     have hki : ¬ (k : Int) < (k : Int) := by omega
     have hEP : FE = E := by rw [e3.out, hE]
     have hZP : FZ = sz := by rw [e2.out, hsz]
     subst hEP; subst hZP; have hR0 : wr.heap[w.heap.size]? = some (.cells #[.int .i64 0, .int .i64 0, .slice none 0 0] 26 (0, 0)) := by rw [hkb.out.block _ (by have := hs1.out; omega)]; exact hR4.out
     have hfin := iI (w := w) (w9 := wr) (X := X) (R := w.heap.size) (base := w1.heap.size) (cap := cv) (r := FR) (s' := FZ) (E := FE) (b := true) (a := av) (nl _) (by have := hs1.out; omega) hbr hP
     obtain ⟨y0, y1, y2⟩ := ah hR0; have f2 := fun j => frozen_of_row wr w.heap.size j _ _ hR0
     simp at y0 y1 y2
     replace hfin := ae hfin; replace hR0 := ae hR0; replace hX9 := ae hX9; replace hP := ae hP; replace hk9 := ae hk9; replace hbr := ae hbr; replace hE := ae hE; replace hsz := ae hsz; clear hst; go_wp2
     (try simp only [Exit.inBlock, Exit.then])
     refine aO (x := .bool true) rfl rfl rfl (Go.Proofs.YtgnomlcjikfdhaaGreat.set3 hR0.out _ _ _) Tryz.underlying26 aB ?_; exact hfin.out
end Go.Proofs.YtgnomlcjikfdhaaGreat
