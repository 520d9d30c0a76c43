import Derived.Deep.Cut
import Derived.Deep.LoopGhost
import Derived.Deep.RegionHeld3
import Derived.Test.YtgnomlcjikfdhaaGreatJ40Me
import Derived.Test.YtgnomlcjikfdhaaGreatJ7Me
import Derived.Test.YtgnomlcjikfdhaaGreatJ41Me
namespace Go.Proofs.YtgnomlcjikfdhaaGreat
open Go.RowKit
set_option linter.unusedVariables false
set_option linter.unusedSimpArgs false
def zW (w : World) (e : Ending) (w' : World) : Prop := ∃ r s es, nM r s es ∧ gX w r s es e w'
set_option maxHeartbeats 3200000 in
set_option maxRecDepth 100000 in
theorem EZ (w : World) (a : Option Addr) (len cap : Nat) (hcode : eF w.heap.size w a len) :
 Calls Tryz.prog 36 #[.slice a len cap] w (zW w) := by
 obtain ⟨w1, hw1⟩ := ag (w.alloc (.cells #[.int .i64 0, .int .i64 0, .slice none 0 0] 26)); have hb1 : Below w.heap.size w w1 := by rw [hw1]; exact (Below.refl _ _).alloc (nl _) _
 have hs1 : w.heap.size < w1.heap.size := by rw [hw1]; simp
 have hk1 : w1.heap[w.heap.size]? = some (.cells #[.int .i64 0, .int .i64 0, .slice none 0 0] 26 (0, 0)) := by rw [hw1]; exact heap_alloc_new _ _
 have hnew := uC w1 a len cap ((hcode.below hb1).up hb1.size); have hww := ae hw1.symm; replace hcode := ae hcode; replace hw1 := ae hw1; replace hk1 := ae hk1; go_enter Tryz.func36, Tryz.ntmps36
 go_upto_region 1 with fail
 rw [hww.out]; go_wp2_with fail; refine hnew.mono ?_; rintro e w2 ⟨g, rfl, hb2, hd2⟩; clear hnew; have hgg := uK hd2; have hsz2 := hb2.size; have hR2 := ae ((hb2.block _ hs1).trans hk1.out); have hb12 := ae (hb1.trans (hb2.mono hb1.size)); replace hd2 := ae hd2; replace hb2 := ae hb2; go_wp2_with fail; refine hgg.mono ?_; rintro e w3 ⟨r, s, x, c, es, hP, rfl, hrow3, hg3, hd3⟩; clear hgg; have hb3 := hd2.out.below hg3
 have hRz := (hb3.block _ hs1).trans hR2.out; obtain ⟨n, hm⟩ := ag es.length; rw [← hm] at hrow3 ⊢; obtain ⟨y0, y1, y2⟩ := ah hRz; have f2 := fun j => frozen_of_row w3 w.heap.size j _ _ hRz
 simp at y0 y1 y2
 have hsz3 := hg3.size; have hfz : zW w (.returned (.agg #[.int .i64 r, .int .i64 s, .slice x n c])) (((w3.setCell ⟨w.heap.size, 0, none⟩ (.int .i64 r)).setCell ⟨w.heap.size, 1, none⟩ (.int .i64 s)).setCell ⟨w.heap.size, 2, none⟩ (.slice x n c)) := by
  subst hm; exact ⟨r, s, es, hP, x, c, rfl, (hrow3.set3_ (.inl (by omega))).wide (by omega) (by rw [aW]; exact nl _), aN (hb12.out.trans (hb3.mono (by omega))) (nl _)⟩
 have hset := set3 hRz (.int .i64 r) (.int .i64 s) (.slice x n c); replace hfz := ae hfz; replace hset := ae hset; replace hRz := ae hRz; replace hm := ae hm; replace hP := ae hP; replace hrow3 := ae hrow3; replace hg3 := ae hg3; replace hd3 := ae hd3; replace hb3 := ae hb3; go_wp2
 (try simp only [Exit.inBlock, Exit.then])
 refine dM (cs := #[.int .i64 r, .int .i64 s, .slice x n c]) rfl (g := w.heap.size) rfl (by exact hset.out) Tryz.underlying26 aB ?_
 exact hfz.out
def NQ (w : World) (e : Ending) (w' : World) : Prop := ∃ z : Int, (-1 ≤ z ∧ z ≤ 4) ∧ e = .returned (.int .i64 z) ∧ Below w.heap.size w w'
set_option maxHeartbeats 3200000 in
set_option maxRecDepth 100000 in
theorem EL (w : World) (a : Option Addr) (len cap : Nat) (hcode : eF w.heap.size w a len) :
 Calls Tryz.prog 31 #[.slice a len cap] w (NQ w) := by
 have hnew := uC w a len cap hcode; replace hcode := ae hcode; go_enter Tryz.func31, Tryz.ntmps31
 go_wp2_with fail; refine hnew.mono ?_; rintro e w2 ⟨g, rfl, hb2, hd2⟩; clear hnew; have hbl := dG hd2 6 6 rfl (by omega) (by omega)
 have hsz2 := hb2.size; have hgne : w.heap.size ≤ g := hd2.1.1; replace hd2 := ae hd2; go_wp2_with fail; refine hbl.mono ?_; rintro e w3 ⟨z, ⟨z1, z2⟩, rfl, hg3, hd3⟩; clear hbl; have hws : IntKind.i64.wrap (z - 1) = z - 1 := IntWalk.i64_in _ (by omega)
 have hfz : NQ w (.returned (.int .i64 (z - 1))) w3 := ⟨z - 1, by omega, rfl, hb2.trans ((below_of_grown hg3 hgne (by omega)).mono (by omega))⟩
 replace hfz := ae hfz; replace hg3 := ae hg3; replace hd3 := ae hd3; replace hb2 := ae hb2; go_wp2; go_ret
 (try rw [hws])
 exact hfz.out
theorem Ce {r : Int} (h : 1 ≤ r ∧ r ≤ 3) : nM (dY r) (fJ r) (lQ r) := by
 have h1 := rf r; refine ⟨?_, ?_, by omega⟩
 · unfold dY; rw [if_pos h]; omega
 · unfold fJ; rw [if_pos h]; omega
set_option maxHeartbeats 6400000 in
set_option maxRecDepth 100000 in
theorem EX (w : World) (a : Option Addr) (len cap : Nat) (hcode : eF w.heap.size w a len) :
 Calls Tryz.prog 37 #[.slice a len cap] w (zW w) := by
 obtain ⟨w1, hw1⟩ := ag (w.alloc (.cells #[.int .i64 0, .int .i64 0, .slice none 0 0] 26)); have hb1 : Below w.heap.size w w1 := by rw [hw1]; exact (Below.refl _ _).alloc (nl _) _
 have hs1 : w.heap.size < w1.heap.size := by rw [hw1]; simp
 have hk1 : w1.heap[w.heap.size]? = some (.cells #[.int .i64 0, .int .i64 0, .slice none 0 0] 26 (0, 0)) := by rw [hw1]; exact heap_alloc_new _ _
 have hnew := uC w1 a len cap ((hcode.below hb1).up hb1.size); have hww := ae hw1.symm; replace hcode := ae hcode; replace hw1 := ae hw1; replace hk1 := ae hk1; go_enter Tryz.func37, Tryz.ntmps37
 go_upto_region 1 with fail
 rw [hww.out]; go_wp2_with fail; refine hnew.mono ?_; rintro e w2 ⟨g, rfl, hb2, hd2⟩; clear hnew; have hon := uM hd2 3 3 rfl (by omega) (by omega)
 have hsz2 := hb2.size; have hR2 := ae ((hb2.block _ hs1).trans hk1.out); have hb12 := ae (hb1.trans (hb2.mono hb1.size)); have hgne : w1.heap.size ≤ g := hd2.1.1; have fin : ∀ (W : World) (lo hi : Nat) (r' s' : Int) (av : Option Addr) (m c : Nat) (es' : List Ed), m = es'.length → nM r' s' es' → aF 36 3 W lo hi (.slice av m c) m (aC es') → w.heap.size < lo → hi ≤ W.heap.size → Below w.heap.size w W →
  zW w (.returned (.agg #[.int .i64 r', .int .i64 s', .slice av m c])) (((W.setCell ⟨w.heap.size, 0, none⟩ (.int .i64 r')).setCell ⟨w.heap.size, 1, none⟩ (.int .i64 s')).setCell ⟨w.heap.size, 2, none⟩ (.slice av m c)) := by
  intro W lo hi r' s' av m c es' hm hP hrw hlo hhi hbW; subst hm; exact ⟨r', s', es', hP, av, c, rfl, (hrw.set3_ (.inl (by omega))).wide (by omega) (by rw [aW]; exact hhi), aN hbW (nl _)⟩
 replace fin := ae fin; replace hd2 := ae hd2; replace hb2 := ae hb2; go_wp2_with fail; refine hon.mono ?_; rintro e w3 ⟨k, rfl, hg3, hd3⟩; clear hon; have hsz3 := hg3.size; have hR3 := ae ((bC hg3 (by omega) (by omega)).trans hR2.out)
 have hb13 := ae (hb12.out.trans ((below_of_grown hg3 (show w1.heap.size ≤ g by omega) (by omega)).mono (by omega)))
 replace hg3 := ae hg3
 cases k with
 | true =>
  have hbl := dG hd3 3 3 rfl (by omega) (by omega)
  replace hd3 := ae hd3; go_wp2_with fail; refine hbl.mono ?_; rintro e w4 ⟨z, ⟨z1, z2⟩, rfl, hg4, hd4⟩; clear hbl; have hsz4 := hg4.size; have hR4 := ae ((bC hg4 (by omega) (by omega)).trans hR3.out)
  have hb14 := ae (hb13.out.trans ((below_of_grown hg4 (show w1.heap.size ≤ g by omega) (by omega)).mono (by omega)))
  have hws : IntKind.i64.wrap (1 + z) = 1 + z := IntWalk.i64_in _ (by omega)
  obtain ⟨R, hRR⟩ := ag (1 + z); have hP := Ce (r := R) (by omega)
  have hfl := xE w4 R; rw [← hRR] at hws; obtain ⟨FR, hFR⟩ := ag (dY R); obtain ⟨FS, hFS⟩ := ag (fJ R); obtain ⟨FE, hFE⟩ := ag (lQ R); obtain ⟨FB, hFB⟩ := ag (gG R); rw [← hFR, ← hFS, ← hFE, ← hFB] at hfl; rw [← hFR, ← hFS, ← hFE] at hP; rw [hRR] at hfl; replace hFR := ae hFR; replace hFS := ae hFS; replace hFE := ae hFE; replace hFB := ae hFB; replace hP := ae hP; replace hg4 := ae hg4; replace hd4 := ae hd4
  go_wp2_with (first | (rw [hws, hRR]) | fail)
  refine hfl.mono ?_; rintro e w5 ⟨fa, fc, rfl, hrow5, hb5⟩; clear hfl; have hsz5 := hb5.size; obtain ⟨q, hq⟩ := ag FE.length; rw [← hq] at hrow5 ⊢; obtain ⟨X, hX⟩ := ag w5.heap.size; obtain ⟨w6, hw6⟩ := ag (w5.alloc (.cells #[.int .i64 0, .int .i64 0, .slice none 0 0] 26)); have hX0 : w6.heap[X]? = some (.cells #[.int .i64 0, .int .i64 0, .slice none 0 0] 26 (0, 0)) := by rw [hw6, hX]; exact heap_alloc_new _ _
  have hbw6 : Below w5.heap.size w5 w6 := by rw [hw6]; exact (Below.refl _ _).alloc (nl _) _
  obtain ⟨w7, hw7⟩ := ag (((w6.setCell ⟨X, 0, none⟩ (.int .i64 FR)).setCell ⟨X, 1, none⟩ (.int .i64 FS)).setCell ⟨X, 2, none⟩ (.slice fa q fc)); have hXC : w7.heap[X]? = some (.cells #[.int .i64 FR, .int .i64 FS, .slice fa q fc] 26 (0, 0)) := by rw [hw7]; exact set3 hX0 _ _ _
  have hbw7 : Below w5.heap.size w5 w7 := by rw [hw7, hX]; exact aN hbw6 (nl _)
  have hszC := hbw7.size; have hsw7 : X < w7.heap.size := (Array.getElem?_eq_some_iff.1 hXC).1; obtain ⟨t0, t1, t2⟩ := ah hX0; have ft := fun j => frozen_of_row w6 X j _ _ hX0
  obtain ⟨x0, x1, x2⟩ := ah hXC; simp at t0 t1 t2 x0 x1 x2
  have hBw := ae hw6.symm; have hCw := ae hw7.symm; have hXw := ae hX.symm; replace hw6 := ae hw6; replace hw7 := ae hw7; replace hX0 := ae hX0; replace hX := ae hX; have hb47 := hb5.trans (hbw7.mono hsz5); have hRz := (hb47.block _ (by omega)).trans hR4.out
  have hrz : aF 36 3 w7 w4.heap.size w5.heap.size (.slice fa q fc) q (aC FE) := hrow5.below hbw7 (nl _); have hbz := hb14.out.trans (hb47.mono (by omega))
  obtain ⟨y0, y1, y2⟩ := ah hRz; have f2 := fun j => frozen_of_row w7 w.heap.size j _ _ hRz
  simp at y0 y1 y2
  have hfz := fin.out w7 w4.heap.size w5.heap.size FR FS fa q fc FE hq hP.out hrz (by omega) (by omega) hbz
  have hset := set3 hRz (.int .i64 FR) (.int .i64 FS) (.slice fa q fc); replace hfz := ae hfz; replace hset := ae hset; replace hRz := ae hRz; replace hq := ae hq; replace hrow5 := ae hrow5; replace hb5 := ae hb5; replace hb47 := ae hb47; replace hrz := ae hrz; replace hbz := ae hbz; replace hXC := ae hXC; replace hbw7 := ae hbw7; go_upto_region 4 with (first | rw [hBw.out] | rw [hXw.out] | fail)
  try rw [hXw.out]
  rw [hCw.out]; clear t0 t1 t2 ft; go_wp2
  (try simp only [Exit.inBlock, Exit.then])
  refine dM (cs := #[.int .i64 FR, .int .i64 FS, .slice fa q fc]) rfl (g := w.heap.size) rfl (by exact hset.out) Tryz.underlying26 aB ?_
  exact hfz.out
 | false =>
  have ha := uK hd3; replace hd3 := ae hd3; go_wp2_with fail; refine ha.mono ?_; rintro e w4 ⟨r, s, x, c, es, hP, rfl, hrow4, hg4, hd4⟩; clear ha; have hsz4 := hg4.size; have hRz := (bC hg4 (by omega) (by omega)).trans hR3.out
  have hbz := hb13.out.trans ((below_of_grown hg4 (show w1.heap.size ≤ g by omega) (by omega)).mono (by omega))
  obtain ⟨n, hm⟩ := ag es.length; rw [← hm] at hrow4 ⊢; obtain ⟨y0, y1, y2⟩ := ah hRz; have f2 := fun j => frozen_of_row w4 w.heap.size j _ _ hRz
  simp at y0 y1 y2
  have hfz := fin.out w4 w3.heap.size w4.heap.size r s x n c es hm hP hrow4 (by omega) (nl _) hbz
  have hset := set3 hRz (.int .i64 r) (.int .i64 s) (.slice x n c); replace hfz := ae hfz; replace hset := ae hset; replace hRz := ae hRz; replace hbz := ae hbz; replace hm := ae hm; replace hP := ae hP; replace hrow4 := ae hrow4; replace hg4 := ae hg4; replace hd4 := ae hd4; go_wp2
  (try simp only [Exit.inBlock, Exit.then])
  refine dM (cs := #[.int .i64 r, .int .i64 s, .slice x n c]) rfl (g := w.heap.size) rfl (by exact hset.out) Tryz.underlying26 aB ?_
  exact hfz.out
def J3 (w : World) (e : Ending) (w' : World) : Prop := ∃ (r s : Int) (es : List Ed) (x : Option Addr) (c : Nat) (v : Value) (zs : List Int), nM r s es ∧ (bi zs ∧ zs.length ≤ 6) ∧
 e = .returned (.tuple #[.agg #[.int .i64 r, .int .i64 s, .slice x es.length c], v]) ∧ aF 36 3 w' w.heap.size w'.heap.size (.slice x es.length c) es.length (aC es) ∧ bg w' w.heap.size w'.heap.size v zs ∧ Below w.heap.size w w'
theorem DJ {fn : Func} {p u : Tmp} {ty : TypeId} {fs : Array Field} (h : fn.results = #[.cell p ty, .tmp u]) {tmps : Array Value} {w : World} {g : Nat} {t : TypeId} {cs : Array Value} {fr : Nat × Nat} {x : Value} {R : Ending → World → Prop}
 (hp : tmps.getD p undef = .pointer (some ⟨g, 0, none⟩)) (hx : tmps.getD u undef = x) (hg : w.heap[g]? = some (.cells cs t fr))
 (hu : Tryz.prog.underlying ty = some (.struct fs)) (hi : (Tryz.prog.info? ty).map (·.size) = some cs.size) (hr : R (.returned (.tuple #[.agg cs, x])) w) :
 bodyPost Tryz.prog fn R .ret { tmps := tmps, defers := [] } w := by
 refine bodyPost_ret (v := .tuple #[.agg cs, x]) ?_ rfl hr; have hp' : tmps[p]?.getD undef = .pointer (some ⟨g, 0, none⟩) := by simpa using hp
 have hx' : tmps[u]?.getD undef = x := by simpa using hx
 simp [results, h, hp', hx', asAddr, run_loadVar_row w g t ty cs fr _ hg hu rfl hi]
set_option maxHeartbeats 12800000 in
set_option maxRecDepth 100000 in
theorem CQ (w : World) (a : Option Addr) (len cap : Nat) (hcode : eF w.heap.size w a len) :
 Calls Tryz.prog 22 #[.slice a len cap] w (J3 w) := by
 obtain ⟨w1, hw1⟩ := ag (w.alloc (.cells #[.int .i64 0, .int .i64 0, .slice none 0 0] 26)); have hb1 : Below w.heap.size w w1 := by rw [hw1]; exact (Below.refl _ _).alloc (nl _) _
 have hs1 : w.heap.size < w1.heap.size := by rw [hw1]; simp
 have hk1 : w1.heap[w.heap.size]? = some (.cells #[.int .i64 0, .int .i64 0, .slice none 0 0] 26 (0, 0)) := by rw [hw1]; exact heap_alloc_new _ _
 have hnew := uC w1 a len cap ((hcode.below hb1).up hb1.size); have hww := ae hw1.symm; replace hcode := ae hcode; replace hw1 := ae hw1; replace hk1 := ae hk1; go_enter Tryz.func22, Tryz.ntmps22
 go_upto_region 1 with fail
 rw [hww.out]; go_wp2_with fail; refine hnew.mono ?_; rintro e w2 ⟨g, rfl, hb2, hd2⟩; clear hnew; have hgg := uK hd2; have hsz2 := hb2.size; have hR2 := ae ((hb2.block _ hs1).trans hk1.out); have hb12 := ae (hb1.trans (hb2.mono hb1.size)); have hg23 := ae hd2.lt; have hgne : w1.heap.size ≤ g := hd2.1.1; replace hd2 := ae hd2; replace hb2 := ae hb2; go_wp2_with fail; refine hgg.mono ?_; rintro e w3 ⟨r, s, x, c, es, hP, rfl, hrow3, hg3, hd3⟩
 clear hgg; have hb3 := hd2.out.below hg3; have hRz := (hb3.block _ hs1).trans hR2.out; obtain ⟨n, hm⟩ := ag es.length; rw [← hm] at hrow3 ⊢; have hsz3 := hg3.size; have hb13 := ae (hb12.out.trans (hb3.mono (by omega)))
 obtain ⟨w4, hw4⟩ := ag (w3.alloc (.cells #[.int .i64 r, .int .i64 s, .slice x n c] 26)); have hb34 : Below w3.heap.size w3 w4 := by rw [hw4]; exact (Below.refl _ _).alloc (nl _) _
 have hs4 : w3.heap.size < w4.heap.size := by rw [hw4]; simp
 have hd4 : Dr w1.heap.size g a len cap w4 := by rw [hw4]; exact hd3.alloc _
 obtain ⟨g0, g1, g2⟩ := bT hw4; have hw4' := ae hw4.symm; have hR4 := ae ((hb34.block _ (show w.heap.size < w3.heap.size by omega)).trans hRz)
 obtain ⟨GB, hGB⟩ := ag w3.heap.size; rw [← hGB] at g0 g1 g2; have hGlt : GB < w4.heap.size := by omega
 have hGR : w.heap.size < GB := by omega
 have hG2 : GB ≠ g := by have := hd3.lt; omega
 have hrow4 : aF 36 3 w4 w2.heap.size w3.heap.size (.slice x n c) n (aC es) := hrow3.below hb34 (nl _); have hb24 := ae (hb13.out.trans (hb34.mono (by omega)))
 have hg2lt := hg23.out; have hfin : ∀ (W : World) (v : Value) (zs : List Int) (lo : Nat), Below w.heap.size w W → aF 36 3 W w2.heap.size w3.heap.size (.slice x n c) n (aC es) → w3.heap.size ≤ W.heap.size → (bi zs ∧ zs.length ≤ 6) → bg W lo W.heap.size v zs → w.heap.size < lo →
  J3 w (.returned (.tuple #[.agg #[.int .i64 r, .int .i64 s, .slice x n c], v])) (((W.setCell ⟨w.heap.size, 0, none⟩ (.int .i64 r)).setCell ⟨w.heap.size, 1, none⟩ (.int .i64 s)).setCell ⟨w.heap.size, 2, none⟩ (.slice x n c)) := fun W v zs lo hb hr hsz hz hi hlo => by
  subst hm; exact ⟨r, s, es, x, c, v, zs, hP, hz, rfl, (hr.set3_ (.inl (by omega))).wide (by omega) (by rw [aW]; exact hsz),
   (hi.keep (fun k h1 h2 => dS (by omega))).wide (by omega) (by rw [aW]; exact nl _), aN hb (nl _)⟩
 have hwrd := fun (W : World) (hd : Dr w1.heap.size g a len cap W) (hr : aF 36 3 W w2.heap.size w3.heap.size (.slice x n c) n (aC es)) (hh : w3.heap.size ≤ W.heap.size) => Bf hd r s x n c es hm w2.heap.size w3.heap.size hr hg23.out hh hP
 replace hfin := ae hfin; replace hwrd := ae hwrd; replace hrow3 := ae hrow3; replace hrow4 := ae hrow4; replace hm := ae hm; replace hP := ae hP; replace hg3 := ae hg3; replace hd3 := ae hd3; replace hd4 := ae hd4; replace hb3 := ae hb3; replace hb34 := ae hb34; replace hGB := ae hGB; replace hRz := ae hRz; go_upto_region 3 with fail
 rw [hw4'.out, ← hGB.out]; replace hw4 := ae hw4; obtain ⟨wd, hwd⟩ := ag w4.drew; have hbd : Below w4.heap.size w4 wd := by rw [hwd]; exact bf (Below.refl _ _) 1
 have hszd : wd.heap.size = w4.heap.size := by rw [hwd]; rfl
 have hdd := ae (show Dr w1.heap.size g a len cap wd from hd4.out.over hbd hd4.out.lt)
 have d0 := af g0 hbd (by omega)
 have d1 := af g1 hbd (by omega)
 have d2 := af g2 hbd (by omega)
 have hRd := ae ((hbd.block _ (show w.heap.size < w4.heap.size by omega)).trans hR4.out)
 have hb1d := ae (hb24.out.trans (hbd.mono (by omega)))
 have hrowd := ae (hrow4.out.below hbd (by omega))
 replace hwd := ae hwd; clear hbd g0 g1 g2; refine bV (fun _ _ d _ _ h => by cases d <;> exact h) (fun Q' hnorm hpan => ?_)
 refine wp_region_held_drew (S := (fun W0 => W0.cell? ⟨GB, 0, none⟩ = some (.int .i64 r) ∧ W0.cell? ⟨GB, 1, none⟩ = some (.int .i64 s) ∧ W0.cell? ⟨GB, 2, none⟩ = some (.slice x n c))) (by kernel_rfl) ?_ (fun hHeld => ?_)
 · try dsimp only
   (try rw [← hwd.out]); exact ⟨d0, d1, d2⟩
 rw [← hwd.out] at hHeld ⊢; refine tk 0 10 ?_; refine tk 1 11 ?_; refine tk 2 12 ?_; refine rd 3 (fun K hK => ?_)
 rw [if_pos (by rfl)]
 go_simp; go_at_call 66
 (with_reducible refine (hwrd.out wd hdd.out hrowd.out (by omega)).mono ?_)
 rintro e w7 ⟨vw, zw, hzw, rfl, hri7, hg7, hd7⟩; have hsz7 := hg7.size; replace d0 := (World.cell?_of_block (a := (⟨GB, 0, none⟩ : Addr)) (hg7.block GB (by omega) (fun e => by cases e; exact hG2 rfl))).trans d0
 replace d1 := (World.cell?_of_block (a := (⟨GB, 1, none⟩ : Addr)) (hg7.block GB (by omega) (fun e => by cases e; exact hG2 rfl))).trans d1
 replace d2 := (World.cell?_of_block (a := (⟨GB, 2, none⟩ : Addr)) (hg7.block GB (by omega) (fun e => by cases e; exact hG2 rfl))).trans d2
 have hR7 := (hg7.block _ (show w.heap.size < wd.heap.size by omega) (fun e => by cases e; omega)).trans hRd.out
 have hb7 := ae (hb1d.out.trans ((below_of_grown hg7 (show w1.heap.size ≤ g by omega) (by omega)).mono (by omega)))
 have hrow7 := hrowd.out.keep (w' := w7) (fun k h1 h2 => hg7.block k (by omega) (fun e => by cases e; omega))
 have hfz := ae (hfin.out w7 vw zw wd.heap.size hb7.out hrow7 (by omega) hzw hri7 (by omega))
 have hset := ae (set3 hR7 (.int .i64 r) (.int .i64 s) (.slice x n c)); obtain ⟨y0, y1, y2⟩ := ah hR7; have f2 := fun j => frozen_of_row w7 w.heap.size j _ _ hR7
 simp at y0 y1 y2
 have k0 := (World.cell?_of_block (a := (⟨GB, 0, none⟩ : Addr)) (dS (b := w.heap.size) (w := w7) (x0 := .int .i64 r) (x1 := .int .i64 s) (x2 := .slice x n c) (show GB ≠ w.heap.size by omega))).trans d0
 have k1 := (World.cell?_of_block (a := (⟨GB, 1, none⟩ : Addr)) (dS (b := w.heap.size) (w := w7) (x0 := .int .i64 r) (x1 := .int .i64 s) (x2 := .slice x n c) (show GB ≠ w.heap.size by omega))).trans d1
 have k2 := (World.cell?_of_block (a := (⟨GB, 2, none⟩ : Addr)) (dS (b := w.heap.size) (w := w7) (x0 := .int .i64 r) (x1 := .int .i64 s) (x2 := .slice x n c) (show GB ≠ w.heap.size by omega))).trans d2
 replace hR7 := ae hR7; replace hrow7 := ae hrow7; replace hri7 := ae hri7; replace hg7 := ae hg7; replace hd7 := ae hd7; refine hK.out _ _ ?_ (fun hHeld => ?_)
 · try dsimp only
   (try rw [← hwd.out]); exact ⟨d0, d1, d2⟩
 clear hK; try simp only [Act.put, aJ, aH, aI]
 refine rd 4 (fun K hK => ?_)
 rw [if_pos (by rfl)]
 go_simp; replace d0 := k0; replace d1 := k1; replace d2 := k2; refine hK.out _ _ ?_ (fun hHeld => ?_)
 · try dsimp only
   (try rw [← hwd.out]); exact ⟨d0, d1, d2⟩
 clear hK; try simp only [Act.put, aJ, aH, aI]
 refine tk 5 3 ?_; refine wpAnyH_done (by kernel_rfl) ?_ _
 refine hnorm _ _ ?_; clear hnorm hpan; repeat clear hHeld
 try simp only [Exit.then]
 go_wp2
 (try simp only [Exit.inBlock, Exit.then])
 refine DJ (cs := #[.int .i64 r, .int .i64 s, .slice x n c]) rfl (g := w.heap.size) rfl rfl (by exact hset.out) Tryz.underlying26 aB ?_
 exact hfz.out
end Go.Proofs.YtgnomlcjikfdhaaGreat
