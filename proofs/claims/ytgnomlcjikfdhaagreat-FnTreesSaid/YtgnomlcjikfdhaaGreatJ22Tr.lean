import Derived.Deep.Cut
import Derived.Deep.LoopGhost
import Derived.Deep.RegionHeld3
import Derived.Test.YtgnomlcjikfdhaaGreatJ21Tr
import Derived.Test.YtgnomlcjikfdhaaGreatJ8Tr
namespace Go.Proofs.YtgnomlcjikfdhaaGreat
open Go.RowKit
set_option linter.unusedVariables false
set_option linter.unusedSimpArgs false
def DrGrT (w : World) (e : Ending) (w' : World) : Prop := ∃ r s es, Gr0 r s es ∧ LwGraph w r s es e w'
set_option maxHeartbeats 3200000 in
set_option maxRecDepth 100000 in
theorem drawTE_any (w : World) (a : Option Addr) (len cap : Nat) (hcode : CodeIn w.heap.size w a len) :
 Calls Tryz.prog 6 #[.slice a len cap] w (DrGrT w) := by
 obtain ⟨w1, hw1⟩ := exq (w.alloc (.cells #[.int .i64 0, .int .i64 0, .slice none 0 0] 26))
 have hb1 : Below w.heap.size w w1 := by rw [hw1]; exact (Below.refl _ _).alloc (Nat.le_refl _) _
 have hs1 : w.heap.size < w1.heap.size := by rw [hw1]; simp
 have hk1 : w1.heap[w.heap.size]? = some (.cells #[.int .i64 0, .int .i64 0, .slice none 0 0] 26 (0, 0)) := by rw [hw1]; exact heap_alloc_new _ _
 have hnew := new_at w1 a len cap ((hcode.below hb1).up hb1.size)
 have hww := hidI hw1.symm
 replace hcode := hidI hcode
 replace hw1 := hidI hw1
 replace hk1 := hidI hk1
 go_enter Tryz.func6, Tryz.ntmps6
 go_upto_region 1 with fail
 rw [hww.out]
 go_wp2_with fail
 refine hnew.mono ?_
 rintro e w2 ⟨g, rfl, hb2, hd2⟩
 clear hnew
 have hgg := g5_in hd2
 have hsz2 := hb2.size
 have hR2 := hidI ((hb2.block _ hs1).trans hk1.out)
 have hb12 := hidI (hb1.trans (hb2.mono hb1.size))
 replace hd2 := hidI hd2
 replace hb2 := hidI hb2
 go_wp2_with fail
 refine hgg.mono ?_
 rintro e w3 ⟨r, s, x, c, es, hP, rfl, hrow3, hg3, hd3⟩
 clear hgg
 have hb3 := hd2.out.below hg3
 have hRz := (hb3.block _ hs1).trans hR2.out
 obtain ⟨n, hm⟩ := exq es.length
 rw [← hm] at hrow3 ⊢
 obtain ⟨y0, y1, y2⟩ := cell3 hRz
 have f2 := fun j => frozen_of_row w3 w.heap.size j _ _ hRz
 simp at y0 y1 y2
 have hsz3 := hg3.size
 have hfz : DrGrT w (.returned (.agg #[.int .i64 r, .int .i64 s, .slice x n c])) (((w3.setCell ⟨w.heap.size, 0, none⟩ (.int .i64 r)).setCell ⟨w.heap.size, 1, none⟩ (.int .i64 s)).setCell ⟨w.heap.size, 2, none⟩ (.slice x n c)) := by
  subst hm
  exact ⟨r, s, es, hP, x, c, rfl, (hrow3.set3_ (.inl (by omega))).wide (by omega) (by rw [size_set3]; exact Nat.le_refl _), below_set3 (hb12.out.trans (hb3.mono (by omega))) (Nat.le_refl _)⟩
 have hset := set3 hRz (.int .i64 r) (.int .i64 s) (.slice x n c)
 replace hfz := hidI hfz
 replace hset := hidI hset
 replace hRz := hidI hRz
 replace hm := hidI hm
 replace hP := hidI hP
 replace hrow3 := hidI hrow3
 replace hg3 := hidI hg3
 replace hd3 := hidI hd3
 replace hb3 := hidI hb3
 go_wp2
 (try simp only [Exit.inBlock, Exit.then])
 refine ret_cell (cs := #[.int .i64 r, .int .i64 s, .slice x n c]) rfl (g := w.heap.size) rfl (by exact hset.out) Tryz.underlying26 sizeGraph ?_
 exact hfz.out
theorem ret_ctt {fn : Func} {p u v : Tmp} {ty : TypeId} {fs : Array Field} (h : fn.results = #[.cell p ty, .tmp u, .tmp v]) {tmps : Array Value} {w : World} {g : Nat} {t : TypeId} {cs : Array Value} {fr : Nat × Nat} {x y : Value} {R : Ending → World → Prop}
 (hp : tmps.getD p undef = .pointer (some ⟨g, 0, none⟩)) (hx : tmps.getD u undef = x) (hy : tmps.getD v undef = y) (hg : w.heap[g]? = some (.cells cs t fr))
 (hu : Tryz.prog.underlying ty = some (.struct fs)) (hi : (Tryz.prog.info? ty).map (·.size) = some cs.size) (hr : R (.returned (.tuple #[.agg cs, x, y])) w) :
 bodyPost Tryz.prog fn R .ret { tmps := tmps, defers := [] } w := by
 refine bodyPost_ret (v := .tuple #[.agg cs, x, y]) ?_ rfl hr
 have hp' : tmps[p]?.getD undef = .pointer (some ⟨g, 0, none⟩) := by simpa using hp
 have hx' : tmps[u]?.getD undef = x := by simpa using hx
 have hy' : tmps[v]?.getD undef = y := by simpa using hy
 simp [results, h, hp', hx', hy', asAddr, run_loadVar_row w g t ty cs fr _ hg hu rfl hi]
def DrPair (w : World) (e : Ending) (w' : World) : Prop := ∃ (r s : Int) (es : List Ed) (x : Option Addr) (c : Nat) (y z : Int), Gr0 r s es ∧ (-2 ≤ y ∧ y ≤ 42) ∧ (0 ≤ z ∧ z ≤ 42) ∧
 e = .returned (.tuple #[.agg #[.int .i64 r, .int .i64 s, .slice x es.length c], .int .i64 y, .int .i64 z]) ∧ RowS 36 3 w' w.heap.size w'.heap.size (.slice x es.length c) es.length (flatE es) ∧ Below w.heap.size w w'
set_option maxHeartbeats 12800000 in
set_option maxRecDepth 100000 in
theorem pair_any (w : World) (a : Option Addr) (len cap : Nat) (hcode : CodeIn w.heap.size w a len) :
 Calls Tryz.prog 56 #[.slice a len cap] w (DrPair w) := by
 obtain ⟨w1, hw1⟩ := exq (w.alloc (.cells #[.int .i64 0, .int .i64 0, .slice none 0 0] 26))
 have hb1 : Below w.heap.size w w1 := by rw [hw1]; exact (Below.refl _ _).alloc (Nat.le_refl _) _
 have hs1 : w.heap.size < w1.heap.size := by rw [hw1]; simp
 have hk1 : w1.heap[w.heap.size]? = some (.cells #[.int .i64 0, .int .i64 0, .slice none 0 0] 26 (0, 0)) := by rw [hw1]; exact heap_alloc_new _ _
 have hnew := new_at w1 a len cap ((hcode.below hb1).up hb1.size)
 have hww := hidI hw1.symm
 replace hcode := hidI hcode
 replace hw1 := hidI hw1
 replace hk1 := hidI hk1
 go_enter Tryz.func56, Tryz.ntmps56
 go_upto_region 1 with fail
 rw [hww.out]
 go_wp2_with fail
 refine hnew.mono ?_
 rintro e w2 ⟨g, rfl, hb2, hd2⟩
 clear hnew
 have hgg := g5_in hd2
 have hsz2 := hb2.size
 have hR2 := hidI ((hb2.block _ hs1).trans hk1.out)
 have hb12 := hidI (hb1.trans (hb2.mono hb1.size))
 replace hd2 := hidI hd2
 replace hb2 := hidI hb2
 go_wp2_with fail
 refine hgg.mono ?_
 rintro e w3 ⟨r, s, x, c, es, hP, rfl, hrow3, hg3, hd3⟩
 clear hgg
 have hb3 := hd2.out.below hg3
 have hRz := (hb3.block _ hs1).trans hR2.out
 obtain ⟨n, hm⟩ := exq es.length
 rw [← hm] at hrow3 ⊢
 have hsz3 := hg3.size
 have hb13 := hidI (hb12.out.trans (hb3.mono (by omega)))
 obtain ⟨w4, hw4⟩ := exq (w3.alloc (.cells #[.int .i64 r, .int .i64 s, .slice x n c] 26))
 have hb4 : Below w3.heap.size w3 w4 := by rw [hw4]; exact (Below.refl _ _).alloc (Nat.le_refl _) _
 have hs4 : w3.heap.size < w4.heap.size := by rw [hw4]; simp
 have hd4 : Dr w1.heap.size g a len cap w4 := by rw [hw4]; exact hd3.alloc _
 have hb34 : Below w3.heap.size w3 w4 := hb4
 obtain ⟨g0, g1, g2⟩ := box3 hw4
 have hw4' := hidI hw4.symm
 have hRw4 := (hb34.block _ (show w.heap.size < w3.heap.size by omega)).trans hRz
 obtain ⟨GB, hGB⟩ := exq w3.heap.size
 rw [← hGB] at g0 g1 g2
 have hGlt : GB < w4.heap.size := by omega
 have hGR : w.heap.size < GB := by omega
 have hgne : w1.heap.size ≤ g := hd4.1.1
 have hG2 : GB ≠ g := by have := hd3.lt; omega
 have hrow4 : RowS 36 3 w4 w2.heap.size w3.heap.size (.slice x n c) n (flatE es) := hrow3.below hb34 (Nat.le_refl _)
 have hb24 := hidI (hb13.out.trans (hb34.mono (by omega)))
 obtain ⟨N, m, hN, hNm, hN1, hN2⟩ : ∃ (N : Int) (m : Nat), N = (m : Int) ∧ N = (if 1 < s then s else 1) + 1 ∧ 1 ≤ m ∧ m ≤ 42 := by
  obtain ⟨hPr, hPs, hPe⟩ := hP
  by_cases q : 1 < s
  · exact ⟨s + 1, (s + 1).toNat, by omega, by rw [if_pos q], by omega, by omega⟩
  · exact ⟨2, 2, rfl, by rw [if_neg q]; rfl, by omega, by omega⟩
 have hfin : ∀ (W : World) (y z : Int), Below w.heap.size w W → RowS 36 3 W w2.heap.size w3.heap.size (.slice x n c) n (flatE es) → w3.heap.size ≤ W.heap.size → (-2 ≤ y ∧ y ≤ 42) → (0 ≤ z ∧ z ≤ 42) →
  DrPair w (.returned (.tuple #[.agg #[.int .i64 r, .int .i64 s, .slice x n c], .int .i64 y, .int .i64 z])) (((W.setCell ⟨w.heap.size, 0, none⟩ (.int .i64 r)).setCell ⟨w.heap.size, 1, none⟩ (.int .i64 s)).setCell ⟨w.heap.size, 2, none⟩ (.slice x n c)) := fun W y z hb hr hsz hy hz => by
  subst hm
  exact ⟨r, s, es, x, c, y, z, hP, hy, hz, rfl, (hr.set3_ (.inl (by omega))).wide (by omega) (by rw [size_set3]; exact hsz), below_set3 hb (Nat.le_refl _)⟩
 have hrN := fun (W : World) (hd : Dr w1.heap.size g a len cap W) => below_in hd N m hN hN1 (by omega)
 have hs41 : -1 ≤ s ∧ s ≤ 41 := hP.2.1
 have hR4 := hidI hRw4
 replace hfin := hidI hfin
 replace hrN := hidI hrN
 replace hrow3 := hidI hrow3
 replace hrow4 := hidI hrow4
 replace hRz := hidI hRz
 replace hm := hidI hm
 replace hP := hidI hP
 replace hg3 := hidI hg3
 replace hd3 := hidI hd3
 replace hd4 := hidI hd4
 replace hb3 := hidI hb3
 replace hb4 := hidI hb4
 replace hb34 := hidI hb34
 replace hN := hidI hN
 replace hGB := hidI hGB
 clear hRw4
 have hs4h := hidI hs4
 go_upto_region 3 with fail
 rw [hw4'.out, ← hGB.out]
 replace hw4 := hidI hw4
 by_cases hs1' : 1 < s
 · have hNs : N = s + 1 := by rw [hNm, if_pos hs1']
   subst hNs
   replace hNm := hidI hNm
   have hws : IntKind.i64.wrap (s + 1) = s + 1 := IntWalk.i64_in _ (by omega)
   go_wp2_with fail
   refine (hrN.out w4 hd4.out).mono ?_
   rintro e w5 ⟨y, hy, rfl, hg5, hd5⟩
   have hsz5 := hg5.size
   have p0 := (World.cell?_of_block (a := (⟨GB, 0, none⟩ : Addr)) (hg5.block GB (by omega) (fun e => by cases e; exact hG2 rfl))).trans g0
   have p1 := (World.cell?_of_block (a := (⟨GB, 1, none⟩ : Addr)) (hg5.block GB (by omega) (fun e => by cases e; exact hG2 rfl))).trans g1
   have p2 := (World.cell?_of_block (a := (⟨GB, 2, none⟩ : Addr)) (hg5.block GB (by omega) (fun e => by cases e; exact hG2 rfl))).trans g2
   have hR5 := hidI ((hg5.block _ (show w.heap.size < w4.heap.size by omega) (fun e => by cases e; omega)).trans hR4.out)
   have hb5 := hidI (hb24.out.trans ((below_of_grown hg5 (show w1.heap.size ≤ g by omega) (by omega)).mono (by omega)))
   have hg23 := hidI (show g < w2.heap.size from hd2.out.lt)
   have hrow5 := hidI (hrow4.out.keep (w' := w5) (fun k h1 h2 => hg5.block k (by omega) (fun e => by cases e; have := hg23.out; omega)))
   have hbe := below_in hd5 2 2 rfl (by omega) (by omega)
   replace hd5 := hidI hd5
   replace hg5 := hidI hg5
   go_wp2_with fail
   refine hbe.mono ?_
   rintro e w6 ⟨z, hz, rfl, hg6, hd6⟩
   clear hbe
   have hsz6 := hg6.size
   have q0 := (World.cell?_of_block (a := (⟨GB, 0, none⟩ : Addr)) (hg6.block GB (by omega) (fun e => by cases e; exact hG2 rfl))).trans p0
   have q1 := (World.cell?_of_block (a := (⟨GB, 1, none⟩ : Addr)) (hg6.block GB (by omega) (fun e => by cases e; exact hG2 rfl))).trans p1
   have q2 := (World.cell?_of_block (a := (⟨GB, 2, none⟩ : Addr)) (hg6.block GB (by omega) (fun e => by cases e; exact hG2 rfl))).trans p2
   have hyz : IntKind.i64.wrap (y - z) = y - z := IntWalk.i64_in _ (by omega)
   obtain ⟨wd, hwd⟩ := exq w6.drew
   have hbd : Below w6.heap.size w6 wd := by rw [hwd]; exact below_dn (Below.refl _ _) 1
   have hszd : wd.heap.size = w6.heap.size := by rw [hwd]; rfl
   have hd6d := hidI (show Dr w1.heap.size g a len cap wd from hd6.over hbd hd6.lt)
   have d0 := below_cell q0 hbd (by omega)
   have d1 := below_cell q1 hbd (by omega)
   have d2 := below_cell q2 hbd (by omega)
   have hR6 := hidI ((hbd.block _ (show w.heap.size < w6.heap.size by omega)).trans ((hg6.block _ (show w.heap.size < w5.heap.size by omega) (fun e => by cases e; omega)).trans hR5.out))
   have hb6d := hidI ((hb5.out.trans ((below_of_grown hg6 (show w1.heap.size ≤ g by omega) (by omega)).mono (by omega))).trans (hbd.mono (by omega)))
   have hrow6 := hidI ((hrow5.out.keep (w' := w6) (fun k h1 h2 => hg6.block k (by omega) (fun e => by cases e; have := hg23.out; omega))).below hbd (by omega))
   replace hd6 := hidI hd6
   replace hg6 := hidI hg6
   replace hwd := hidI hwd
   replace hszd0 := hidI hszd
   clear hbd
   go_upto_region 4 with fail
   go_wp2
   refine hideQ (fun _ _ d _ _ h => by cases d <;> exact h) (fun Q' hnorm hpan => ?_)
   refine wp_region_held_drew (S := (fun W0 => W0.cell? ⟨GB, 0, none⟩ = some (.int .i64 r) ∧ W0.cell? ⟨GB, 1, none⟩ = some (.int .i64 s) ∧ W0.cell? ⟨GB, 2, none⟩ = some (.slice x n c))) (by kernel_rfl) ?_ (fun hHeld => ?_)
   · try dsimp only
     (try rw [← hwd.out]); exact ⟨d0, d1, d2⟩
   rw [← hwd.out] at hHeld ⊢
   refine tk 0 21 ?_
   refine tk 1 22 ?_
   refine tk 2 23 ?_
   refine tk 3 24 ?_
   refine tk 4 25 ?_
   refine tk 5 26 ?_
   refine tk 6 27 ?_
   refine rd 7 (fun K hK => ?_)
   rw [if_pos (by rfl)]
   go_simp
   try first | rw [if_neg (show ¬ s < 1 by omega), hws] | rw [show IntKind.i64.wrap ((if (1 : Int) < 1 then 1 else 1) + 1) = 2 from by decide] | rw [show IntKind.i64.wrap 2 = 2 from rfl]
   go_at_call 59
   (with_reducible refine (hrN.out wd hd6d.out).mono ?_)
   rintro e w7 ⟨z2, hz2, rfl, hg7, hd7⟩
   have hsz7 := hg7.size
   have d0' := (World.cell?_of_block (a := (⟨GB, 0, none⟩ : Addr)) (hg7.block GB (by omega) (fun e => by cases e; exact hG2 rfl))).trans d0
   have d1' := (World.cell?_of_block (a := (⟨GB, 1, none⟩ : Addr)) (hg7.block GB (by omega) (fun e => by cases e; exact hG2 rfl))).trans d1
   have d2' := (World.cell?_of_block (a := (⟨GB, 2, none⟩ : Addr)) (hg7.block GB (by omega) (fun e => by cases e; exact hG2 rfl))).trans d2
   replace d0 := d0'
   replace d1 := d1'
   replace d2 := d2'
   clear d0' d1' d2'
   have hR7 := (hg7.block _ (show w.heap.size < wd.heap.size by omega) (fun e => by cases e; omega)).trans hR6.out
   have hb7 := hidI (hb6d.out.trans ((below_of_grown hg7 (show w1.heap.size ≤ g by omega) (by omega)).mono (by omega)))
   have hrow7 := hrow6.out.keep (w' := w7) (fun k h1 h2 => hg7.block k (by omega) (fun e => by cases e; have := hg23.out; omega))
   have hfz := hidI (hfin.out w7 (y - z) z2 hb7.out hrow7 (by omega) (by omega) (by omega))
   have hset := hidI (set3 hR7 (.int .i64 r) (.int .i64 s) (.slice x n c))
   obtain ⟨y0, y1, y2⟩ := cell3 hR7
   have f2 := fun j => frozen_of_row w7 w.heap.size j _ _ hR7
   simp at y0 y1 y2
   have k0 := (World.cell?_of_block (a := (⟨GB, 0, none⟩ : Addr)) (heap_set3 (b := w.heap.size) (w := w7) (x0 := .int .i64 r) (x1 := .int .i64 s) (x2 := .slice x n c) (show GB ≠ w.heap.size by omega))).trans d0
   have k1 := (World.cell?_of_block (a := (⟨GB, 1, none⟩ : Addr)) (heap_set3 (b := w.heap.size) (w := w7) (x0 := .int .i64 r) (x1 := .int .i64 s) (x2 := .slice x n c) (show GB ≠ w.heap.size by omega))).trans d1
   have k2 := (World.cell?_of_block (a := (⟨GB, 2, none⟩ : Addr)) (heap_set3 (b := w.heap.size) (w := w7) (x0 := .int .i64 r) (x1 := .int .i64 s) (x2 := .slice x n c) (show GB ≠ w.heap.size by omega))).trans d2
   replace hR7 := hidI hR7
   replace hrow7 := hidI hrow7
   replace hg7 := hidI hg7
   replace hd7 := hidI hd7
   refine hK.out _ _ ?_ (fun hHeld => ?_)
   · try dsimp only
     (try rw [← hwd.out]); exact ⟨d0, d1, d2⟩
   clear hK
   try simp only [Act.put, lyA, lyB, lyC]
   refine rd 8 (fun K hK => ?_)
   rw [if_pos (by rfl)]
   go_simp
   replace d0 := k0
   replace d1 := k1
   replace d2 := k2
   refine hK.out _ _ ?_ (fun hHeld => ?_)
   · try dsimp only
     (try rw [← hwd.out]); exact ⟨d0, d1, d2⟩
   clear hK
   try simp only [Act.put, lyA, lyB, lyC]
   refine tk 9 3 ?_
   refine tk 10 4 ?_
   refine wpAnyH_done (by kernel_rfl) ?_ _
   refine hnorm _ _ ?_
   clear hnorm hpan
   repeat clear hHeld
   try simp only [Exit.then]
   go_wp2
   (try simp only [Exit.inBlock, Exit.then])
   refine ret_ctt (cs := #[.int .i64 r, .int .i64 s, .slice x n c]) rfl (g := w.heap.size) rfl rfl rfl (by exact hset.out) Tryz.underlying26 sizeGraph ?_
   exact hfz.out
 by_cases hs0' : s = 1
 · subst hs0'
   have hNs : N = 2 := by rw [hNm, if_neg hs1']; rfl
   subst hNs
   replace hNm := hidI hNm
   go_wp2_with fail
   refine (hrN.out w4 hd4.out).mono ?_
   rintro e w5 ⟨y, hy, rfl, hg5, hd5⟩
   have hsz5 := hg5.size
   have p0 := (World.cell?_of_block (a := (⟨GB, 0, none⟩ : Addr)) (hg5.block GB (by omega) (fun e => by cases e; exact hG2 rfl))).trans g0
   have p1 := (World.cell?_of_block (a := (⟨GB, 1, none⟩ : Addr)) (hg5.block GB (by omega) (fun e => by cases e; exact hG2 rfl))).trans g1
   have p2 := (World.cell?_of_block (a := (⟨GB, 2, none⟩ : Addr)) (hg5.block GB (by omega) (fun e => by cases e; exact hG2 rfl))).trans g2
   have hR5 := hidI ((hg5.block _ (show w.heap.size < w4.heap.size by omega) (fun e => by cases e; omega)).trans hR4.out)
   have hb5 := hidI (hb24.out.trans ((below_of_grown hg5 (show w1.heap.size ≤ g by omega) (by omega)).mono (by omega)))
   have hg23 := hidI (show g < w2.heap.size from hd2.out.lt)
   have hrow5 := hidI (hrow4.out.keep (w' := w5) (fun k h1 h2 => hg5.block k (by omega) (fun e => by cases e; have := hg23.out; omega)))
   have hbe := below_in hd5 2 2 rfl (by omega) (by omega)
   replace hd5 := hidI hd5
   replace hg5 := hidI hg5
   go_wp2_with fail
   refine hbe.mono ?_
   rintro e w6 ⟨z, hz, rfl, hg6, hd6⟩
   clear hbe
   have hsz6 := hg6.size
   have q0 := (World.cell?_of_block (a := (⟨GB, 0, none⟩ : Addr)) (hg6.block GB (by omega) (fun e => by cases e; exact hG2 rfl))).trans p0
   have q1 := (World.cell?_of_block (a := (⟨GB, 1, none⟩ : Addr)) (hg6.block GB (by omega) (fun e => by cases e; exact hG2 rfl))).trans p1
   have q2 := (World.cell?_of_block (a := (⟨GB, 2, none⟩ : Addr)) (hg6.block GB (by omega) (fun e => by cases e; exact hG2 rfl))).trans p2
   have hyz : IntKind.i64.wrap (y - z) = y - z := IntWalk.i64_in _ (by omega)
   obtain ⟨wd, hwd⟩ := exq w6.drew
   have hbd : Below w6.heap.size w6 wd := by rw [hwd]; exact below_dn (Below.refl _ _) 1
   have hszd : wd.heap.size = w6.heap.size := by rw [hwd]; rfl
   have hd6d := hidI (show Dr w1.heap.size g a len cap wd from hd6.over hbd hd6.lt)
   have d0 := below_cell q0 hbd (by omega)
   have d1 := below_cell q1 hbd (by omega)
   have d2 := below_cell q2 hbd (by omega)
   have hR6 := hidI ((hbd.block _ (show w.heap.size < w6.heap.size by omega)).trans ((hg6.block _ (show w.heap.size < w5.heap.size by omega) (fun e => by cases e; omega)).trans hR5.out))
   have hb6d := hidI ((hb5.out.trans ((below_of_grown hg6 (show w1.heap.size ≤ g by omega) (by omega)).mono (by omega))).trans (hbd.mono (by omega)))
   have hrow6 := hidI ((hrow5.out.keep (w' := w6) (fun k h1 h2 => hg6.block k (by omega) (fun e => by cases e; have := hg23.out; omega))).below hbd (by omega))
   replace hd6 := hidI hd6
   replace hg6 := hidI hg6
   replace hwd := hidI hwd
   replace hszd0 := hidI hszd
   clear hbd
   go_upto_region 4 with fail
   go_wp2
   refine hideQ (fun _ _ d _ _ h => by cases d <;> exact h) (fun Q' hnorm hpan => ?_)
   refine wp_region_held_drew (S := (fun W0 => W0.cell? ⟨GB, 0, none⟩ = some (.int .i64 r) ∧ W0.cell? ⟨GB, 1, none⟩ = some (.int .i64 1) ∧ W0.cell? ⟨GB, 2, none⟩ = some (.slice x n c))) (by kernel_rfl) ?_ (fun hHeld => ?_)
   · try dsimp only
     (try rw [← hwd.out]); exact ⟨d0, d1, d2⟩
   rw [← hwd.out] at hHeld ⊢
   refine tk 0 21 ?_
   refine tk 1 22 ?_
   refine tk 2 23 ?_
   refine tk 3 24 ?_
   refine tk 4 25 ?_
   refine tk 5 26 ?_
   refine tk 6 27 ?_
   refine rd 7 (fun K hK => ?_)
   rw [if_pos (by rfl)]
   go_simp
   try first | rw [if_neg (show ¬ s < 1 by omega), hws] | rw [show IntKind.i64.wrap ((if (1 : Int) < 1 then 1 else 1) + 1) = 2 from by decide] | rw [show IntKind.i64.wrap 2 = 2 from rfl]
   go_at_call 59
   (with_reducible refine (hrN.out wd hd6d.out).mono ?_)
   rintro e w7 ⟨z2, hz2, rfl, hg7, hd7⟩
   have hsz7 := hg7.size
   have d0' := (World.cell?_of_block (a := (⟨GB, 0, none⟩ : Addr)) (hg7.block GB (by omega) (fun e => by cases e; exact hG2 rfl))).trans d0
   have d1' := (World.cell?_of_block (a := (⟨GB, 1, none⟩ : Addr)) (hg7.block GB (by omega) (fun e => by cases e; exact hG2 rfl))).trans d1
   have d2' := (World.cell?_of_block (a := (⟨GB, 2, none⟩ : Addr)) (hg7.block GB (by omega) (fun e => by cases e; exact hG2 rfl))).trans d2
   replace d0 := d0'
   replace d1 := d1'
   replace d2 := d2'
   clear d0' d1' d2'
   have hR7 := (hg7.block _ (show w.heap.size < wd.heap.size by omega) (fun e => by cases e; omega)).trans hR6.out
   have hb7 := hidI (hb6d.out.trans ((below_of_grown hg7 (show w1.heap.size ≤ g by omega) (by omega)).mono (by omega)))
   have hrow7 := hrow6.out.keep (w' := w7) (fun k h1 h2 => hg7.block k (by omega) (fun e => by cases e; have := hg23.out; omega))
   have hfz := hidI (hfin.out w7 (y - z) z2 hb7.out hrow7 (by omega) (by omega) (by omega))
   have hset := hidI (set3 hR7 (.int .i64 r) (.int .i64 1) (.slice x n c))
   obtain ⟨y0, y1, y2⟩ := cell3 hR7
   have f2 := fun j => frozen_of_row w7 w.heap.size j _ _ hR7
   simp at y0 y1 y2
   have k0 := (World.cell?_of_block (a := (⟨GB, 0, none⟩ : Addr)) (heap_set3 (b := w.heap.size) (w := w7) (x0 := .int .i64 r) (x1 := .int .i64 1) (x2 := .slice x n c) (show GB ≠ w.heap.size by omega))).trans d0
   have k1 := (World.cell?_of_block (a := (⟨GB, 1, none⟩ : Addr)) (heap_set3 (b := w.heap.size) (w := w7) (x0 := .int .i64 r) (x1 := .int .i64 1) (x2 := .slice x n c) (show GB ≠ w.heap.size by omega))).trans d1
   have k2 := (World.cell?_of_block (a := (⟨GB, 2, none⟩ : Addr)) (heap_set3 (b := w.heap.size) (w := w7) (x0 := .int .i64 r) (x1 := .int .i64 1) (x2 := .slice x n c) (show GB ≠ w.heap.size by omega))).trans d2
   replace hR7 := hidI hR7
   replace hrow7 := hidI hrow7
   replace hg7 := hidI hg7
   replace hd7 := hidI hd7
   refine hK.out _ _ ?_ (fun hHeld => ?_)
   · try dsimp only
     (try rw [← hwd.out]); exact ⟨d0, d1, d2⟩
   clear hK
   try simp only [Act.put, lyA, lyB, lyC]
   refine rd 8 (fun K hK => ?_)
   rw [if_pos (by rfl)]
   go_simp
   replace d0 := k0
   replace d1 := k1
   replace d2 := k2
   refine hK.out _ _ ?_ (fun hHeld => ?_)
   · try dsimp only
     (try rw [← hwd.out]); exact ⟨d0, d1, d2⟩
   clear hK
   try simp only [Act.put, lyA, lyB, lyC]
   refine tk 9 3 ?_
   refine tk 10 4 ?_
   refine wpAnyH_done (by kernel_rfl) ?_ _
   refine hnorm _ _ ?_
   clear hnorm hpan
   repeat clear hHeld
   try simp only [Exit.then]
   go_wp2
   (try simp only [Exit.inBlock, Exit.then])
   refine ret_ctt (cs := #[.int .i64 r, .int .i64 1, .slice x n c]) rfl (g := w.heap.size) rfl rfl rfl (by exact hset.out) Tryz.underlying26 sizeGraph ?_
   exact hfz.out
 · have hNs : N = 2 := by rw [hNm, if_neg hs1']; rfl
   subst hNs
   replace hNm := hidI hNm
   have hs2' : s < 1 := by omega
   go_wp2_with fail
   refine (hrN.out w4 hd4.out).mono ?_
   rintro e w5 ⟨y, hy, rfl, hg5, hd5⟩
   have hsz5 := hg5.size
   have p0 := (World.cell?_of_block (a := (⟨GB, 0, none⟩ : Addr)) (hg5.block GB (by omega) (fun e => by cases e; exact hG2 rfl))).trans g0
   have p1 := (World.cell?_of_block (a := (⟨GB, 1, none⟩ : Addr)) (hg5.block GB (by omega) (fun e => by cases e; exact hG2 rfl))).trans g1
   have p2 := (World.cell?_of_block (a := (⟨GB, 2, none⟩ : Addr)) (hg5.block GB (by omega) (fun e => by cases e; exact hG2 rfl))).trans g2
   have hR5 := hidI ((hg5.block _ (show w.heap.size < w4.heap.size by omega) (fun e => by cases e; omega)).trans hR4.out)
   have hb5 := hidI (hb24.out.trans ((below_of_grown hg5 (show w1.heap.size ≤ g by omega) (by omega)).mono (by omega)))
   have hg23 := hidI (show g < w2.heap.size from hd2.out.lt)
   have hrow5 := hidI (hrow4.out.keep (w' := w5) (fun k h1 h2 => hg5.block k (by omega) (fun e => by cases e; have := hg23.out; omega)))
   have hbe := below_in hd5 2 2 rfl (by omega) (by omega)
   replace hd5 := hidI hd5
   replace hg5 := hidI hg5
   go_wp2_with fail
   refine hbe.mono ?_
   rintro e w6 ⟨z, hz, rfl, hg6, hd6⟩
   clear hbe
   have hsz6 := hg6.size
   have q0 := (World.cell?_of_block (a := (⟨GB, 0, none⟩ : Addr)) (hg6.block GB (by omega) (fun e => by cases e; exact hG2 rfl))).trans p0
   have q1 := (World.cell?_of_block (a := (⟨GB, 1, none⟩ : Addr)) (hg6.block GB (by omega) (fun e => by cases e; exact hG2 rfl))).trans p1
   have q2 := (World.cell?_of_block (a := (⟨GB, 2, none⟩ : Addr)) (hg6.block GB (by omega) (fun e => by cases e; exact hG2 rfl))).trans p2
   have hyz : IntKind.i64.wrap (y - z) = y - z := IntWalk.i64_in _ (by omega)
   obtain ⟨wd, hwd⟩ := exq w6.drew
   have hbd : Below w6.heap.size w6 wd := by rw [hwd]; exact below_dn (Below.refl _ _) 1
   have hszd : wd.heap.size = w6.heap.size := by rw [hwd]; rfl
   have hd6d := hidI (show Dr w1.heap.size g a len cap wd from hd6.over hbd hd6.lt)
   have d0 := below_cell q0 hbd (by omega)
   have d1 := below_cell q1 hbd (by omega)
   have d2 := below_cell q2 hbd (by omega)
   have hR6 := hidI ((hbd.block _ (show w.heap.size < w6.heap.size by omega)).trans ((hg6.block _ (show w.heap.size < w5.heap.size by omega) (fun e => by cases e; omega)).trans hR5.out))
   have hb6d := hidI ((hb5.out.trans ((below_of_grown hg6 (show w1.heap.size ≤ g by omega) (by omega)).mono (by omega))).trans (hbd.mono (by omega)))
   have hrow6 := hidI ((hrow5.out.keep (w' := w6) (fun k h1 h2 => hg6.block k (by omega) (fun e => by cases e; have := hg23.out; omega))).below hbd (by omega))
   replace hd6 := hidI hd6
   replace hg6 := hidI hg6
   replace hwd := hidI hwd
   replace hszd0 := hidI hszd
   clear hbd
   go_upto_region 4 with fail
   go_wp2
   refine hideQ (fun _ _ d _ _ h => by cases d <;> exact h) (fun Q' hnorm hpan => ?_)
   refine wp_region_held_drew (S := (fun W0 => W0.cell? ⟨GB, 0, none⟩ = some (.int .i64 r) ∧ W0.cell? ⟨GB, 1, none⟩ = some (.int .i64 s) ∧ W0.cell? ⟨GB, 2, none⟩ = some (.slice x n c))) (by kernel_rfl) ?_ (fun hHeld => ?_)
   · try dsimp only
     (try rw [← hwd.out]); exact ⟨d0, d1, d2⟩
   rw [← hwd.out] at hHeld ⊢
   refine tk 0 21 ?_
   refine tk 1 22 ?_
   refine tk 2 23 ?_
   refine tk 3 24 ?_
   refine tk 4 25 ?_
   refine tk 5 26 ?_
   refine tk 6 27 ?_
   refine rd 7 (fun K hK => ?_)
   rw [if_pos (by rfl)]
   go_simp
   try first | rw [if_neg (show ¬ s < 1 by omega), hws] | rw [show IntKind.i64.wrap ((if (1 : Int) < 1 then 1 else 1) + 1) = 2 from by decide] | rw [show IntKind.i64.wrap 2 = 2 from rfl]
   go_at_call 59
   (with_reducible refine (hrN.out wd hd6d.out).mono ?_)
   rintro e w7 ⟨z2, hz2, rfl, hg7, hd7⟩
   have hsz7 := hg7.size
   have d0' := (World.cell?_of_block (a := (⟨GB, 0, none⟩ : Addr)) (hg7.block GB (by omega) (fun e => by cases e; exact hG2 rfl))).trans d0
   have d1' := (World.cell?_of_block (a := (⟨GB, 1, none⟩ : Addr)) (hg7.block GB (by omega) (fun e => by cases e; exact hG2 rfl))).trans d1
   have d2' := (World.cell?_of_block (a := (⟨GB, 2, none⟩ : Addr)) (hg7.block GB (by omega) (fun e => by cases e; exact hG2 rfl))).trans d2
   replace d0 := d0'
   replace d1 := d1'
   replace d2 := d2'
   clear d0' d1' d2'
   have hR7 := (hg7.block _ (show w.heap.size < wd.heap.size by omega) (fun e => by cases e; omega)).trans hR6.out
   have hb7 := hidI (hb6d.out.trans ((below_of_grown hg7 (show w1.heap.size ≤ g by omega) (by omega)).mono (by omega)))
   have hrow7 := hrow6.out.keep (w' := w7) (fun k h1 h2 => hg7.block k (by omega) (fun e => by cases e; have := hg23.out; omega))
   have hfz := hidI (hfin.out w7 (y - z) z2 hb7.out hrow7 (by omega) (by omega) (by omega))
   have hset := hidI (set3 hR7 (.int .i64 r) (.int .i64 s) (.slice x n c))
   obtain ⟨y0, y1, y2⟩ := cell3 hR7
   have f2 := fun j => frozen_of_row w7 w.heap.size j _ _ hR7
   simp at y0 y1 y2
   have k0 := (World.cell?_of_block (a := (⟨GB, 0, none⟩ : Addr)) (heap_set3 (b := w.heap.size) (w := w7) (x0 := .int .i64 r) (x1 := .int .i64 s) (x2 := .slice x n c) (show GB ≠ w.heap.size by omega))).trans d0
   have k1 := (World.cell?_of_block (a := (⟨GB, 1, none⟩ : Addr)) (heap_set3 (b := w.heap.size) (w := w7) (x0 := .int .i64 r) (x1 := .int .i64 s) (x2 := .slice x n c) (show GB ≠ w.heap.size by omega))).trans d1
   have k2 := (World.cell?_of_block (a := (⟨GB, 2, none⟩ : Addr)) (heap_set3 (b := w.heap.size) (w := w7) (x0 := .int .i64 r) (x1 := .int .i64 s) (x2 := .slice x n c) (show GB ≠ w.heap.size by omega))).trans d2
   replace hR7 := hidI hR7
   replace hrow7 := hidI hrow7
   replace hg7 := hidI hg7
   replace hd7 := hidI hd7
   refine hK.out _ _ ?_ (fun hHeld => ?_)
   · try dsimp only
     (try rw [← hwd.out]); exact ⟨d0, d1, d2⟩
   clear hK
   try simp only [Act.put, lyA, lyB, lyC]
   refine rd 8 (fun K hK => ?_)
   rw [if_pos (by rfl)]
   go_simp
   replace d0 := k0
   replace d1 := k1
   replace d2 := k2
   refine hK.out _ _ ?_ (fun hHeld => ?_)
   · try dsimp only
     (try rw [← hwd.out]); exact ⟨d0, d1, d2⟩
   clear hK
   try simp only [Act.put, lyA, lyB, lyC]
   refine tk 9 3 ?_
   refine tk 10 4 ?_
   refine wpAnyH_done (by kernel_rfl) ?_ _
   refine hnorm _ _ ?_
   clear hnorm hpan
   repeat clear hHeld
   try simp only [Exit.then]
   go_wp2
   (try simp only [Exit.inBlock, Exit.then])
   refine ret_ctt (cs := #[.int .i64 r, .int .i64 s, .slice x n c]) rfl (g := w.heap.size) rfl rfl rfl (by exact hset.out) Tryz.underlying26 sizeGraph ?_
   exact hfz.out
def DrWd (w : World) (e : Ending) (w' : World) : Prop := ∃ (r s : Int) (es : List Ed) (x : Option Addr) (c : Nat) (z : Int), Gr0 r s es ∧ (0 ≤ z ∧ z ≤ 42) ∧
 e = .returned (.tuple #[.agg #[.int .i64 r, .int .i64 s, .slice x es.length c], .int .i64 z]) ∧ RowS 36 3 w' w.heap.size w'.heap.size (.slice x es.length c) es.length (flatE es) ∧ Below w.heap.size w w'
end Go.Proofs.YtgnomlcjikfdhaaGreat
