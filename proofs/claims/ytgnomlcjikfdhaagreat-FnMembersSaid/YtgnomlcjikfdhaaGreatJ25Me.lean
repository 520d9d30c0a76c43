import Derived.Deep.Cut
import Derived.Test.YtgnomlcjikfdhaaGreatJ19Me
import Derived.Test.YtgnomlcjikfdhaaGreatJ24Me
import Derived.Test.YtgnomlcjikfdhaaGreatJ22Me
import Derived.Test.YtgnomlcjikfdhaaGreatJ17Me
import Derived.Test.YtgnomlcjikfdhaaGreatJ14Me
namespace Go.Proofs.YtgnomlcjikfdhaaGreat
open Go.RowKit
set_option linter.unusedVariables false
set_option linter.unusedSimpArgs false
theorem NM {r s : Int} {es : List Ed} (hg : aK r s es = true) : aK r (kR r s es) (kQ r s es) = true := by
 have h := JW hg 40; unfold kR kQ; rw [h]; exact xx hg 40
theorem EF {r s : Int} {es : List Ed} (hg : aK r s es = false) : kR r s es = s ∧ kQ r s es = es := by
 obtain ⟨h1, h2, _⟩ := Ei r s es; rw [h1, h2]; unfold Ho BM; rw [hg]; exact ⟨rfl, rfl⟩
theorem NI {r s : Int} {es : List Ed} (hs : -9223372036854775808 ≤ s ∧ s ≤ 9223372036854775807) : -9223372036854775808 ≤ kR r s es ∧ kR r s es ≤ 9223372036854775807 := by
 cases hg : aK r s es with
 | true => have := aZ (NM hg); omega
 | false => rw [(EF hg).1]; exact hs
theorem Ny {r s : Int} {es : List Ed} (hs : -9223372036854775808 ≤ s ∧ s ≤ 9223372036854775807) : -9223372036854775808 ≤ jE r s es ∧ jE r s es ≤ 9223372036854775807 := by
 cases hg : aK r s es with
 | true => have := aZ (JV hg); omega
 | false => rw [(xJ hg).1]; exact hs
theorem Fv (r s : Int) (es : List Ed) : (kQ r s es).length ≤ es.length := by
 rw [(Ei r s es).2.1]; exact ET r s es []
def qy (r s : Int) (es : List Ed) : Int := jr r (jE r (kR r s es) (kQ r s es)) (jg r (kR r s es) (kQ r s es))
def sW (r s : Int) (es : List Ed) : List Ed := jk r (jE r (kR r s es) (kQ r s es)) (jg r (kR r s es) (kQ r s es))
theorem EQ (r s : Int) (es : List Ed) : (sW r s es).length ≤ es.length := by
 have h1 := rM r (jE r (kR r s es) (kQ r s es)) (jg r (kR r s es) (kQ r s es)); have h2 := xh r (kR r s es) (kQ r s es); have h3 := Fv r s es; unfold sW; omega
set_option maxRecDepth 100000 in
set_option maxHeartbeats 6400000 in
theorem Gj (w : World) (r s : Int) (v : Value) (es : List Ed) (h : ay w.heap.size w v es) (hs : -9223372036854775808 ≤ s ∧ s ≤ 9223372036854775807) (hl : es.length ≤ 1048576) :
 Calls Tryz.prog 156 #[.agg #[.int .i64 r, .int .i64 s, v]] w (gX w r (qy r s es) (sW r s es)) := by
 obtain ⟨a, cap, rfl, hnc⟩ := h.form; obtain ⟨n, hn⟩ := ag es.length; rw [← hn] at hl hnc ⊢; rw [← hn] at h; obtain ⟨w1, hw1⟩ := ag ((w.alloc (.cells #[.int .i64 r, .int .i64 s, .slice a n cap] 26)).alloc (.cells #[.int .i64 0, .int .i64 0, .slice none 0 0] 26)); have hb1 : Below w.heap.size w w1 := by rw [hw1]; exact ((Below.refl _ _).alloc (nl _) _).alloc (by simp) _
 have hs1 : w1.heap.size = w.heap.size + 1 + 1 := by rw [hw1]; simp
 have hg := dH w (.cells #[.int .i64 r, .int .i64 s, .slice a n cap] 26) (.cells #[.int .i64 0, .int .i64 0, .slice none 0 0] 26); have hR := heap_alloc_new (w.alloc (.cells #[.int .i64 r, .int .i64 s, .slice a n cap] 26)) (.cells #[.int .i64 0, .int .i64 0, .slice none 0 0] 26); rw [← hw1] at hg hR; rw [show (w.alloc (.cells #[.int .i64 r, .int .i64 s, .slice a n cap] 26)).heap.size = w.heap.size + 1 by simp] at hR
 have g0 : w1.cell? ⟨w.heap.size, 0, none⟩ = some (.int .i64 r) := by simpa using cell_of_heap hg 0
 have g1 : w1.cell? ⟨w.heap.size, 1, none⟩ = some (.int .i64 s) := by simpa using cell_of_heap hg 1
 have g2 : w1.cell? ⟨w.heap.size, 2, none⟩ = some (.slice a n cap) := by simpa using cell_of_heap hg 2
 have hfa := KX w1 r s (.slice a n cap) es (by have := (h.below hb1).mono hb1.size; rw [hn] at this ⊢; exact this) hs (by omega)
 have hfb := NI (r := r) (es := es) hs; have hfl := Fv r s es; have htb := Ny (r := r) (es := kQ r s es) hfb; have htl := xh r (kR r s es) (kQ r s es); obtain ⟨CS, hCS⟩ := ag (qy r s es); obtain ⟨CE, hCE⟩ := ag (sW r s es); rw [← hCS, ← hCE]; unfold qy at hCS; unfold sW at hCE; obtain ⟨FS, hFS⟩ := ag (kR r s es); obtain ⟨FE, hFE⟩ := ag (kQ r s es); obtain ⟨FL, hFL⟩ := ag (DD r s es); rw [← hFS, ← hFE, ← hFL] at hfa
 rw [← hFS, ← hFE] at hCS hCE htb htl; rw [← hFS] at hfb; rw [← hFE] at hfl; have htr := fun (W : World) (av : Value) (hr : ay W.heap.size W av FE) => Ik W r FS av FE hr hfb (by omega)
 have hcg := fun (W : World) (av : Value) (hr : ay W.heap.size W av (jg r FS FE)) => Ai W r (jE r FS FE) av (jg r FS FE) hr htb (by omega)
 rw [← hCS, ← hCE] at hcg; obtain ⟨TS, hTS⟩ := ag (jE r FS FE); obtain ⟨TE, hTE⟩ := ag (jg r FS FE); obtain ⟨TLs, hTL⟩ := ag (mM r FS FE); rw [← hTS, ← hTE] at hcg; rw [← hTS, ← hTE, ← hTL] at htr; have hRk : ∀ W, Below w1.heap.size w1 W → W.heap[w.heap.size + 1]? = some (.cells #[.int .i64 0, .int .i64 0, .slice none 0 0] 26 (0, 0)) := fun W hW => by rw [hW.block _ (by omega)]; exact hR
 have hww := ae hw1.symm; have hb1' := ae hb1; replace hRk := ae hRk; replace htr := ae htr; replace hcg := ae hcg; replace hCS := ae hCS; replace hCE := ae hCE; replace hFS := ae hFS; replace hFE := ae hFE; replace hFL := ae hFL; replace hTS := ae hTS; replace hTE := ae hTE; replace hTL := ae hTL; replace hn := ae hn; replace h := ae h; replace hg := ae hg; replace hR := ae hR; replace hs1 := ae hs1
 replace hw1 := ae hw1; replace hfb := ae hfb; replace htb := ae htb; replace hfl := ae hfl; replace htl := ae htl; go_enter Tryz.func156, Tryz.ntmps156
 go_upto_region 1 with fail
 rw [hww.out]; go_wp2_with fail; refine hfa.mono ?_; rintro e w2 ⟨ca, cc, lv, glo, ghi, flo, fhi, rfl, hd0, hrow2, hst2, hb2⟩; clear hfa; have hlt1 : w.heap.size + 1 < w1.heap.size := by have := hs1.out; omega
 have hsz2 := hb2.size; obtain ⟨w3, hw3⟩ := ag (w2.alloc (.cells #[.int .i64 0, .int .i64 0, .slice none 0 0] 26)); have hb3 : Below w2.heap.size w2 w3 := by rw [hw3]; exact (Below.refl _ _).alloc (nl _) _
 have hX3 : w3.heap[w2.heap.size]? = some (.cells #[.int .i64 0, .int .i64 0, .slice none 0 0] 26 (0, 0)) := by rw [hw3]; exact heap_alloc_new _ _
 obtain ⟨w4, hw4⟩ := ag (((w3.setCell ⟨w2.heap.size, 0, none⟩ (.int .i64 r)).setCell ⟨w2.heap.size, 1, none⟩ (.int .i64 FS)).setCell ⟨w2.heap.size, 2, none⟩ (.slice ca FE.length cc)); have hX4 : w4.heap[w2.heap.size]? = some (.cells #[.int .i64 r, .int .i64 FS, .slice ca FE.length cc] 26 (0, 0)) := by rw [hw4]; exact set3 hX3 _ _ _
 have hb4 : Below w2.heap.size w2 w4 := by rw [hw4]; exact aN hb3 (nl _)
 have hsz4 : w2.heap.size < w4.heap.size := (Array.getElem?_eq_some_iff.1 hX4).1; have hrow4 : aF 36 3 w4 glo ghi (.slice ca FE.length cc) FE.length (aC FE) := hrow2.below hb4 hd0.2.2.1; have hb14 := hb2.trans (hb4.mono hsz2); obtain ⟨c0, c1, c2⟩ := ah hX4; obtain ⟨t0, t1, t2⟩ := ah hX3; have ft := fun j => frozen_of_row w3 w2.heap.size j _ _ hX3
 simp at c0 c1 c2 t0 t1 t2
 have hw3w := ae hw3.symm; have hw4w := ae hw4.symm; have htr4 := htr.out w4 (.slice ca FE.length cc) (hrow4.read.mono (by omega))
 replace hw3 := ae hw3; replace hw4 := ae hw4; replace hX3 := ae hX3; replace hX4 := ae hX4; replace hrow2 := ae hrow2; replace hst2 := ae hst2; replace hd0 := ae hd0; replace hb2 := ae hb2; replace hb4 := ae hb4; replace hrow4 := ae hrow4; replace hb14 := ae hb14; clear hb3 g0 g1 g2; go_upto_region 2 with (first | rw [hw3w.out] | fail)
 rw [hw4w.out]; clear t0 t1 t2 ft; go_wp2_with fail; refine htr4.mono ?_; rintro e w5 ⟨da, dc, dv, glo2, ghi2, flo2, fhi2, rfl, hd5, hrow5, hst5, hb5⟩; clear htr4 c0 c1 c2; have hsz5 := hb5.size; obtain ⟨w6, hw6⟩ := ag (w5.alloc (.cells #[.int .i64 0, .int .i64 0, .slice none 0 0] 26)); have hb6 : Below w5.heap.size w5 w6 := by rw [hw6]; exact (Below.refl _ _).alloc (nl _) _
 have hX6 : w6.heap[w5.heap.size]? = some (.cells #[.int .i64 0, .int .i64 0, .slice none 0 0] 26 (0, 0)) := by rw [hw6]; exact heap_alloc_new _ _
 obtain ⟨w7, hw7⟩ := ag (((w6.setCell ⟨w5.heap.size, 0, none⟩ (.int .i64 r)).setCell ⟨w5.heap.size, 1, none⟩ (.int .i64 TS)).setCell ⟨w5.heap.size, 2, none⟩ (.slice da TE.length dc)); have hX7 : w7.heap[w5.heap.size]? = some (.cells #[.int .i64 r, .int .i64 TS, .slice da TE.length dc] 26 (0, 0)) := by rw [hw7]; exact set3 hX6 _ _ _
 have hb7 : Below w5.heap.size w5 w7 := by rw [hw7]; exact aN hb6 (nl _)
 have hsz7 : w5.heap.size < w7.heap.size := (Array.getElem?_eq_some_iff.1 hX7).1; have hrow7 : aF 36 3 w7 glo2 ghi2 (.slice da TE.length dc) TE.length (aC TE) := hrow5.below hb7 hd5.2.2.1; have hb17 := hb14.out.trans ((hb5.trans (hb7.mono hsz5)).mono hb14.out.size); obtain ⟨c0, c1, c2⟩ := ah hX7; obtain ⟨t0, t1, t2⟩ := ah hX6; have ft := fun j => frozen_of_row w6 w5.heap.size j _ _ hX6
 simp at c0 c1 c2 t0 t1 t2
 have hw6w := ae hw6.symm; have hw7w := ae hw7.symm; have hcg7 := hcg.out w7 (.slice da TE.length dc) (hrow7.read.mono (by omega))
 replace hw6 := ae hw6; replace hw7 := ae hw7; replace hX6 := ae hX6; replace hX7 := ae hX7; replace hrow5 := ae hrow5; replace hst5 := ae hst5; replace hd5 := ae hd5; replace hb5 := ae hb5; replace hb7 := ae hb7; replace hrow7 := ae hrow7; replace hb17 := ae hb17; clear hb6; go_upto_region 3 with (first | rw [hw6w.out] | fail)
 rw [hw7w.out]; clear t0 t1 t2 ft; go_wp2_with fail; refine hcg7.mono ?_; rintro e w8 ⟨ea, ec, rfl, hrow8, hb8⟩; clear hcg7 c0 c1 c2; have hb18 := hb17.out.trans (hb8.mono hb17.out.size); have hR8 := hRk.out w8 hb18; obtain ⟨y0, y1, y2⟩ := ah hR8; have f2 := fun j => frozen_of_row w8 (w.heap.size + 1) j _ _ hR8
 simp at y0 y1 y2
 have hs17 := hb17.out.size; have hfin : gX w r CS CE (.returned (.agg #[.int .i64 r, .int .i64 CS, .slice ea CE.length ec])) (((w8.setCell ⟨w.heap.size + 1, 0, none⟩ (.int .i64 r)).setCell ⟨w.heap.size + 1, 1, none⟩ (.int .i64 CS)).setCell ⟨w.heap.size + 1, 2, none⟩ (.slice ea CE.length ec)) := by
  refine ⟨ea, ec, rfl, (aF.set3_ hrow8 (.inl (by omega))).wide (by omega) (by rw [aW]; exact nl _), aN (hb1'.out.trans (hb18.mono hb1'.out.size)) (by omega)⟩
 have hset := set3 hR8 (.int .i64 r) (.int .i64 CS) (.slice ea CE.length ec); replace hfin := ae hfin; replace hset := ae hset; replace hR8 := ae hR8; replace hrow8 := ae hrow8; replace hb8 := ae hb8; replace hb18 := ae hb18; go_wp2
 (try simp only [Exit.inBlock, Exit.then])
 refine dM rfl (g := w.heap.size + 1) rfl hset.out Tryz.underlying26 aB ?_; exact hfin.out
end Go.Proofs.YtgnomlcjikfdhaaGreat
namespace Go.Proofs.YtgnomlcjikfdhaaGreat
open Go.RowKit
set_option linter.unusedVariables false
set_option linter.unusedSimpArgs false
def wX (r : Int) (zss : List (List Int)) : Int := if jy r zss = true then lS r zss else 0
def xX (r : Int) (zss : List (List Int)) : Int := if jy r zss = true then qy (lS r zss) (mG r zss) (lg r zss) else 0
def vO (r : Int) (zss : List (List Int)) : List Ed := if jy r zss = true then sW (lS r zss) (mG r zss) (lg r zss) else []
theorem Nw {r : Int} {zss : List (List Int)} (h : jy r zss = false) : wX r zss = 0 ∧ xX r zss = 0 ∧ vO r zss = [] := by
 have h' : ¬ jy r zss = true := by rw [h]; decide
 unfold wX xX vO; rw [if_neg h', if_neg h', if_neg h']; exact ⟨rfl, rfl, rfl⟩
theorem MV {r : Int} {zss : List (List Int)} (h : jy r zss = true) : wX r zss = lS r zss ∧ xX r zss = qy (lS r zss) (mG r zss) (lg r zss) ∧ vO r zss = sW (lS r zss) (mG r zss) (lg r zss) := by
 unfold wX xX vO; rw [if_pos h, if_pos h, if_pos h]; exact ⟨rfl, rfl, rfl⟩
theorem EH (r : Int) (zss : List (List Int)) : (vO r zss).length ≤ (lg r zss).length := by
 unfold vO; split
 · exact EQ _ _ _
 · simp
theorem IE (r : Int) (zss : List (List Int)) : -9223372036854775808 ≤ mG r zss ∧ mG r zss ≤ 9223372036854775807 := by
 unfold mG; split
 · have := (rX r zss zss.length (nl _)).1
   rw [List.take_length] at this; omega
 · omega
set_option maxRecDepth 100000 in
set_option maxHeartbeats 3200000 in
theorem Gw (w : World) (r : Int) (v : Value) (zss : List (List Int)) (h : dJ w.heap.size w v zss) (hs : jF zss ≤ 1048576) :
 Calls Tryz.prog 128 #[.int .i64 r, v] w (aS w (wX r zss) (xX r zss) (vO r zss) (jy r zss)) := by
 have h' := h; obtain ⟨hl, a, cap, rfl, _, _⟩ := h'; obtain ⟨w1, hw1⟩ := ag (w.alloc (.cells #[.int .i64 0, .int .i64 0, .slice none 0 0] 26)); have hb1 : Below w.heap.size w w1 := by rw [hw1]; exact (Below.refl _ _).alloc (nl _) _
 have hs1 : w1.heap.size = w.heap.size + 1 := by rw [hw1]; simp
 have hk := heap_alloc_new w (.cells #[.int .i64 0, .int .i64 0, .slice none 0 0] 26); rw [← hw1] at hk; have hcall := Eo w1 r (.slice a zss.length cap) zss ((h.below hb1).mono hb1.size) hs; have hel := Cc r zss; have hzl := IE r zss; obtain ⟨n, hn⟩ := ag zss.length; obtain ⟨B, hB⟩ := ag (jy r zss); obtain ⟨FR, hFR⟩ := ag (lS r zss); obtain ⟨FZ, hFZ⟩ := ag (mG r zss); obtain ⟨FE, hFE⟩ := ag (lg r zss)
 obtain ⟨SR, hSR⟩ := ag (wX r zss); obtain ⟨SS, hSS⟩ := ag (xX r zss); obtain ⟨SE, hSE⟩ := ag (vO r zss); have hno : B = false → SR = 0 ∧ SS = 0 ∧ SE = [] := fun q => by
  rw [hSR, hSS, hSE]; exact Nw (by rw [← hB]; exact q)
 have hyes : B = true → SR = FR ∧ SS = qy FR FZ FE ∧ SE = sW FR FZ FE := fun q => by
  rw [hSR, hSS, hSE, hFR, hFZ, hFE]; exact MV (by rw [← hB]; exact q)
 rw [← hn, ← hFR, ← hFZ, ← hFE, ← hB] at hcall; rw [← hFE] at hel; rw [← hFZ] at hzl; rw [← hn, ← hB, ← hSR, ← hSS, ← hSE]; have hfe : FE.length ≤ 1048576 := Nat.le_trans hel hs; have hRk := fun (W : World) (hW : Below w1.heap.size w1 W) => (by rw [hW.block _ (by omega)]; exact hk : W.heap[w.heap.size]? = some (.cells #[.int .i64 0, .int .i64 0, .slice none 0 0] 26 (0, 0)))
 replace hRk := ae hRk; replace hn := ae hn; replace hB := ae hB; replace hFR := ae hFR; replace hFZ := ae hFZ; replace hFE := ae hFE; replace hSR := ae hSR; replace hSS := ae hSS; replace hSE := ae hSE; replace hno := ae hno; replace hyes := ae hyes; replace h := ae h; replace hk := ae hk; replace hs1 := ae hs1; replace hel := ae hel; go_enter Tryz.func128, Tryz.ntmps128
 go_upto_region 1 with fail
 rw [← hw1]; replace hw1 := ae hw1; go_wp2_with fail; refine hcall.mono ?_; rintro e w2 ⟨b, cap2, rfl, hrow2, hb2⟩; clear hcall; have hs2 := hb2.size; obtain ⟨N, hN⟩ := ag FE.length; rw [← hN] at hrow2 hfe ⊢; obtain ⟨w3, hw3⟩ := ag (w2.alloc (.cells #[.int .i64 FR, .int .i64 FZ, .slice b N cap2] 26)); have hb3 : Below w2.heap.size w2 w3 := by rw [hw3]; exact (Below.refl _ _).alloc (nl _) _
 obtain ⟨x0, x1, x2⟩ := bT hw3; have hs3 : w2.heap.size < w3.heap.size := by rw [hw3]; simp
 have hb13 := ae (hb2.trans (hb3.mono hs2)); have hbw3 := ae (hb1.trans (hb13.out.mono hb1.size)); have hrow3 : aF 36 3 w3 w1.heap.size w2.heap.size (.slice b N cap2) N (aC FE) := hrow2.below hb3 (nl _); have hcore := Gj w3 FR FZ (.slice b N cap2) FE (by have := hrow3.read.mono (Nat.le_of_lt hs3); rw [hN] at this ⊢; exact this) hzl (by omega)
 have hw1s := hb1.size; replace hrow2 := ae hrow2; replace hrow3 := ae hrow3; replace hN := ae hN; clear hb2 hb3; go_upto_region 2 with fail
 rw [← hw3]; replace hw3 := ae hw3
 cases B with
 | false =>
  obtain ⟨e1, e2, e3⟩ := hno.out rfl; subst e1; subst e2; subst e3; have hR := hRk.out w3 hb13.out; obtain ⟨y0, y1, y2⟩ := ah hR; have f2 := fun j => frozen_of_row w3 w.heap.size j _ _ hR
  simp at y0 y1 y2
  have hfin : aS w 0 0 [] false (.returned (.tuple #[.agg #[.int .i64 0, .int .i64 0, .slice none 0 0], .bool false])) (((w3.setCell ⟨w.heap.size, 0, none⟩ (.int .i64 0)).setCell ⟨w.heap.size, 1, none⟩ (.int .i64 0)).setCell ⟨w.heap.size, 2, none⟩ (.slice none 0 0)) :=
   ⟨none, 0, rfl, ⟨rfl, by simp, .inl ⟨rfl, rfl⟩⟩, aN hbw3.out (nl _)⟩
  replace hfin := ae hfin; replace hR := ae hR; clear hcore x0 x1 x2; go_wp2
  (try simp only [Exit.inBlock, Exit.then])
  refine aO (x := .bool false) rfl rfl rfl (Go.Proofs.YtgnomlcjikfdhaaGreat.set3 hR.out _ _ _) Tryz.underlying26 aB ?_; exact hfin.out
 | true =>
  obtain ⟨e1, e2, e3⟩ := hyes.out rfl; rw [← e2, ← e3] at hcore; replace e1 := ae e1; replace e2 := ae e2; replace e3 := ae e3; go_wp2_with fail; refine hcore.mono ?_; rintro e w4 ⟨c, cap4, rfl, hrow4, hb4⟩; clear hcore; have hs4 := hb4.size; obtain ⟨M, hM⟩ := ag SE.length; rw [← hM] at hrow4 ⊢; have hbw4 := hbw3.out.trans (hb4.mono hbw3.out.size); have hR := hRk.out w4 (hb13.out.trans (hb4.mono (by omega)))
  obtain ⟨y0, y1, y2⟩ := ah hR; have f2 := fun j => frozen_of_row w4 w.heap.size j _ _ hR
  simp at y0 y1 y2
  have hfin : aS w FR SS SE true (.returned (.tuple #[.agg #[.int .i64 FR, .int .i64 SS, .slice c M cap4], .bool true])) (((w4.setCell ⟨w.heap.size, 0, none⟩ (.int .i64 FR)).setCell ⟨w.heap.size, 1, none⟩ (.int .i64 SS)).setCell ⟨w.heap.size, 2, none⟩ (.slice c M cap4)) := by
   have hs := hs1.out; refine ⟨c, cap4, by rw [hM], ?_, aN hbw4 (nl _)⟩
   rw [← hM]; exact aF.wide (hrow4.set3_ (.inl (by omega))) (by omega) (by rw [aW]; omega)
  replace hfin := ae hfin; replace hR := ae hR; replace hrow4 := ae hrow4; replace hM := ae hM; clear x0 x1 x2; go_wp2
  (try simp only [Exit.inBlock, Exit.then])
  refine aO (x := .bool true) rfl rfl rfl (Go.Proofs.YtgnomlcjikfdhaaGreat.set3 hR.out _ _ _) Tryz.underlying26 aB ?_; rw [e1.out]; exact hfin.out
end Go.Proofs.YtgnomlcjikfdhaaGreat
