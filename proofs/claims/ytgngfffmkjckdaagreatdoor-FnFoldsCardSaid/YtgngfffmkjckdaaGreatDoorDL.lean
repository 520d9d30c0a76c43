/- Drawn graphs of chapter 7 (tools/dl.py). -/
import Derived.Test.YtgngfffmkjckdaaGreatDoorRT
import Derived.Test.YtgngfffmkjckdaaGreatDoorBX
import Derived.Test.YtgngfffmkjckdaaGreatDoorYH
import Derived.Test.YtgngfffmkjckdaaGreatDoorTR
import Derived.Deep.Cut
import Derived.Deep.LoopGhost
import Derived.Deep.RegionHeld3
namespace Go.Proofs.YtgngfffmkjckdaaGreatDoor
open Go.RowKit
set_option linter.unusedVariables false
set_option linter.unusedSimpArgs false

/-- A drawn graph, in memory of its own. -/
def DrG7 (w : World) (e : Ending) (w' : World) : Prop := ∃ r s es, Gr0 r s es ∧ LwGraph w r s es e w'
/-- A drawn graph and a drawn list. -/
def DrGrI (w : World) (e : Ending) (w' : World) : Prop :=
  ∃ r s es zs, Gr0 r s es ∧ zs.length ≤ 10 ∧ ∃ a cap v, e = .returned (.tuple #[.agg #[.int .i64 r, .int .i64 s, .slice a es.length cap], v]) ∧ ReadE w'.heap.size w' (.slice a es.length cap) es ∧ ReadI w'.heap.size w' v zs ∧ Below w.heap.size w w'
/-- A drawn graph and folds. -/
def DrGrF (w : World) (e : Ending) (w' : World) : Prop :=
  ∃ r s es zs, Gr0 r s es ∧ zs.length ≤ 50 ∧ ∃ a cap v, e = .returned (.tuple #[.agg #[.int .i64 r, .int .i64 s, .slice a es.length cap], v]) ∧ ReadE w'.heap.size w' (.slice a es.length cap) es ∧ ReadF w'.heap.size w' v zs ∧ Below w.heap.size w w'
/-- A drawn graph and a fold. -/
def DrGrK (w : World) (e : Ending) (w' : World) : Prop :=
  ∃ r s es k d, Gr0 r s es ∧ ∃ a cap, e = .returned (.tuple #[.agg #[.int .i64 r, .int .i64 s, .slice a es.length cap], .agg #[.int .i64 k, .int .i64 d]]) ∧ ReadE w'.heap.size w' (.slice a es.length cap) es ∧ Below w.heap.size w w'
theorem ret_cell22 {fn : Func} {p q : Tmp} {ty ty2 : TypeId} {fs fs2 : Array Field} (h : fn.results = #[.cell p ty, .cell q ty2]) {tmps : Array Value} {w : World} {g g2 : Nat} {t t2 : TypeId} {cs cs2 : Array Value} {fr fr2 : Nat × Nat} {R : Ending → World → Prop}
    (hp : tmps.getD p undef = .pointer (some ⟨g, 0, none⟩)) (hq : tmps.getD q undef = .pointer (some ⟨g2, 0, none⟩)) (hg : w.heap[g]? = some (.cells cs t fr)) (hg2 : w.heap[g2]? = some (.cells cs2 t2 fr2))
    (hu : Tryz.prog.underlying ty = some (.struct fs)) (hi : (Tryz.prog.info? ty).map (·.size) = some cs.size) (hu2 : Tryz.prog.underlying ty2 = some (.struct fs2)) (hi2 : (Tryz.prog.info? ty2).map (·.size) = some cs2.size)
    (hr : R (.returned (.tuple #[.agg cs, .agg cs2])) w) :
    bodyPost Tryz.prog fn R .ret { tmps := tmps, defers := [] } w := by
  refine bodyPost_ret (v := .tuple #[.agg cs, .agg cs2]) ?_ rfl hr
  have hp' : tmps[p]?.getD undef = .pointer (some ⟨g, 0, none⟩) := by simpa using hp
  have hq' : tmps[q]?.getD undef = .pointer (some ⟨g2, 0, none⟩) := by simpa using hq
  simp [results, h, hp', hq', asAddr, run_loadVar_row w g t ty cs fr _ hg hu rfl hi, run_loadVar_row w g2 t2 ty2 cs2 fr2 _ hg2 hu2 rfl hi2]
theorem readF_set3 {w : World} {u : Value} {L : List tupF} {b : Nat} {x0 x1 x2 : Value} (h : ReadF w.heap.size w u L) (hne : ∀ k, u.ownBlock = some k → k ≠ b) : ReadF (((w.setCell ⟨b, 0, none⟩ x0).setCell ⟨b, 1, none⟩ x1).setCell ⟨b, 2, none⟩ x2).heap.size (((w.setCell ⟨b, 0, none⟩ x0).setCell ⟨b, 1, none⟩ x1).setCell ⟨b, 2, none⟩ x2) u L := by
  rw [size_set3]
  obtain ⟨h1, hl, a, cap, rfl, h3, h4 | ⟨b', off, rfl, h5, h6⟩⟩ := h
  · exact ⟨h1, hl, a, cap, rfl, h3, .inl h4⟩
  · refine ⟨h1, hl, _, cap, rfl, h3, .inr ⟨b', off, rfl, h5, fun i hi => ?_⟩⟩
    rw [World.cell?_of_block (heap_set3 (hne b' rfl))]
    exact h6 i hi
theorem OwnsF.read10 {w : World} {base : Nat} {v : Value} {L : List tupF} (h : OwnsF w base v L) (hl : L.length ≤ 4000000000000) : ReadF w.heap.size w v L := (OwnsS.row h hl).read
theorem sizeFoldL : (Tryz.prog.info? 37).map (·.size) = some 2 := by kernel_rfl
set_option maxHeartbeats 3200000 in
set_option maxRecDepth 100000 in
theorem drawFA_any (w : World) (a : Option Addr) (len cap : Nat) (hcode : CodeIn w.heap.size w a len) :
    Calls Tryz.prog 5 #[.slice a len cap] w (DrG7 w) := by
  obtain ⟨w1, hw1⟩ : ∃ z, z = w.alloc (.cells #[.int .i64 0, .int .i64 0, .slice none 0 0] 26) := ⟨_, rfl⟩
  have hb1 : Below w.heap.size w w1 := by rw [hw1]; exact (Below.refl _ _).alloc (Nat.le_refl _) _
  have hs1 : w.heap.size < w1.heap.size := by rw [hw1]; simp
  have hk1 : w1.heap[w.heap.size]? = some (.cells #[.int .i64 0, .int .i64 0, .slice none 0 0] 26 (0, 0)) := by rw [hw1]; exact heap_alloc_new _ _
  have hnew := new_at w1 a len cap ((hcode.below hb1).up hb1.size)
  have hww := hidI hw1.symm
  replace hcode := hidI hcode
  replace hw1 := hidI hw1
  replace hk1 := hidI hk1
  go_enter Tryz.func5, Tryz.ntmps5
  go_upto_region 1 with fail
  rw [hww.out]
  go_wp2_with fail
  refine hnew.mono ?_
  rintro e w2 ⟨g, rfl, hb2, hd2⟩
  clear hnew
  have hgg := g7_in hd2
  have hsz2 := hb2.size
  have hR2 := hidI ((hb2.block _ hs1).trans hk1.out)
  have hb12 := hidI (hb1.trans (hb2.mono hb1.size))
  replace hd2 := hidI hd2
  replace hb2 := hidI hb2
  go_wp2_with fail
  refine hgg.mono ?_
  rintro e w3 ⟨r, s, x, c, es, hP, rfl, hrow3, hg3, hd3⟩
  clear hgg
  have hb3 := hd2.out.below hg3
  have hRz := (hb3.block _ hs1).trans hR2.out
  obtain ⟨n, hm⟩ : ∃ n, n = es.length := ⟨_, rfl⟩
  rw [← hm] at hrow3 ⊢
  have y0 := cell_of_heap hRz 0
  have y1 := cell_of_heap hRz 1
  have y2 := cell_of_heap hRz 2
  have f2 := fun j => frozen_of_row w3 w.heap.size j _ _ hRz
  simp at y0 y1 y2
  have hsz3 := hg3.size
  have hfz : DrG7 w (.returned (.agg #[.int .i64 r, .int .i64 s, .slice x n c])) (((w3.setCell ⟨w.heap.size, 0, none⟩ (.int .i64 r)).setCell ⟨w.heap.size, 1, none⟩ (.int .i64 s)).setCell ⟨w.heap.size, 2, none⟩ (.slice x n c)) := by
    subst hm
    exact ⟨r, s, es, hP, x, c, rfl, (hrow3.set3_ (.inl (by omega))).wide (by omega) (by rw [size_set3]; exact Nat.le_refl _), below_set3 (hb12.out.trans (hb3.mono (by omega))) (Nat.le_refl _)⟩
  have hset := set3 hRz (.int .i64 r) (.int .i64 s) (.slice x n c)
  replace hfz := hidI hfz
  replace hset := hidI hset
  replace hRz := hidI hRz
  replace hm := hidI hm
  replace hP := hidI hP
  replace hrow3 := hidI hrow3
  replace hg3 := hidI hg3
  replace hd3 := hidI hd3
  replace hb3 := hidI hb3
  go_wp2
  (try simp only [Exit.inBlock, Exit.then])
  refine ret_cell (cs := #[.int .i64 r, .int .i64 s, .slice x n c]) rfl (g := w.heap.size) rfl (by exact hset.out) Tryz.underlying26 sizeGraph ?_
  exact hfz.out
set_option maxHeartbeats 12800000 in
set_option maxRecDepth 100000 in
theorem drawFO_any (w : World) (a : Option Addr) (len cap : Nat) (hcode : CodeIn w.heap.size w a len) :
    Calls Tryz.prog 23 #[.slice a len cap] w (DrGrI w) := by
  obtain ⟨w1, hw1⟩ : ∃ z, z = w.alloc (.cells #[.int .i64 0, .int .i64 0, .slice none 0 0] 26) := ⟨_, rfl⟩
  have hb1 : Below w.heap.size w w1 := by rw [hw1]; exact (Below.refl _ _).alloc (Nat.le_refl _) _
  have hs1 : w.heap.size < w1.heap.size := by rw [hw1]; simp
  have hk1 : w1.heap[w.heap.size]? = some (.cells #[.int .i64 0, .int .i64 0, .slice none 0 0] 26 (0, 0)) := by rw [hw1]; exact heap_alloc_new _ _
  have hnew := new_at w1 a len cap ((hcode.below hb1).up hb1.size)
  have hww := hidI hw1.symm
  replace hcode := hidI hcode
  replace hw1 := hidI hw1
  replace hk1 := hidI hk1
  go_enter Tryz.func23, Tryz.ntmps23
  go_upto_region 1 with fail
  rw [hww.out]
  go_wp2_with fail
  refine hnew.mono ?_
  rintro e w2 ⟨g, rfl, hb2, hd2⟩
  clear hnew
  have hgg := g7_in hd2
  have hsz2 := hb2.size
  have hR2 := hidI ((hb2.block _ hs1).trans hk1.out)
  have hb12 := hidI (hb1.trans (hb2.mono hb1.size))
  have hgw1 : w1.heap.size ≤ g := hd2.1.1
  replace hd2 := hidI hd2
  replace hb2 := hidI hb2
  go_wp2_with fail
  refine hgg.mono ?_
  rintro e w3 ⟨r, s, x, c, es, hP, rfl, hrow3, hg3, hd3⟩
  clear hgg
  have hb3 := hd2.out.below hg3
  have hR3 := (hb3.block _ hs1).trans hR2.out
  obtain ⟨n, hm⟩ : ∃ n, n = es.length := ⟨_, rfl⟩
  rw [← hm] at hrow3 ⊢
  have hsz3 := hg3.size
  obtain ⟨X, hX⟩ : ∃ z, z = w3.heap.size := ⟨_, rfl⟩
  obtain ⟨w4, hw4⟩ : ∃ z, z = w3.alloc (.cells #[.int .i64 0, .int .i64 0, .slice none 0 0] 26) := ⟨_, rfl⟩
  have hX0 : w4.heap[X]? = some (.cells #[.int .i64 0, .int .i64 0, .slice none 0 0] 26 (0, 0)) := by rw [hw4, hX]; exact heap_alloc_new _ _
  have hbw4 : Below w3.heap.size w3 w4 := by rw [hw4]; exact (Below.refl _ _).alloc (Nat.le_refl _) _
  obtain ⟨w5, hw5⟩ : ∃ z, z = ((w4.setCell ⟨X, 0, none⟩ (.int .i64 r)).setCell ⟨X, 1, none⟩ (.int .i64 s)).setCell ⟨X, 2, none⟩ (.slice x n c) := ⟨_, rfl⟩
  have hXC : w5.heap[X]? = some (.cells #[.int .i64 r, .int .i64 s, .slice x n c] 26 (0, 0)) := by rw [hw5]; exact set3 hX0 _ _ _
  have hbw5 : Below w3.heap.size w3 w5 := by rw [hw5, hX]; exact below_set3 hbw4 (Nat.le_refl _)
  have hszC := hbw5.size
  have hsw5 : X < w5.heap.size := (Array.getElem?_eq_some_iff.1 hXC).1
  have t0 := cell_of_heap hX0 0
  have t1 := cell_of_heap hX0 1
  have t2 := cell_of_heap hX0 2
  have ft := fun j => frozen_of_row w4 X j _ _ hX0
  have x0 := cell_of_heap hXC 0
  have x1 := cell_of_heap hXC 1
  have x2 := cell_of_heap hXC 2
  simp at t0 t1 t2 x0 x1 x2
  have hBw := hidI hw4.symm
  have hCw := hidI hw5.symm
  have hXw := hidI hX.symm
  replace hw4 := hidI hw4
  replace hw5 := hidI hw5
  replace hX0 := hidI hX0
  replace hX := hidI hX

  have hd5 := hidI (hd3.over hbw5 hd3.lt)
  have hg5 : g < w3.heap.size := hd3.lt
  have hR5 := (hbw5.block _ (by omega)).trans hR3
  have hrow5 : RowS 55 3 w5 w2.heap.size w3.heap.size (.slice x n c) n (flatE es) := hrow3.below hbw5 (Nat.le_refl _)
  have hb25 := hb3.trans (hbw5.mono (by omega))
  have hb15 := hidI (hb12.out.trans (hb25.mono (by omega)))
  have hgX : g < X := by have := hX.out; omega
  have hg2 : g < w2.heap.size := hd2.out.lt
  have hRX : w.heap.size < X := by have := hX.out; omega
  have hRg : w.heap.size ≠ g := by omega
  have hXg : X ≠ g := by omega
  have hgb : g < w5.heap.size := by omega
  have fin : ∀ (W : World) (u : Value) (L : List Int), w5.grownBy W (some g) → OwnsI W w5.heap.size u L → L.length ≤ 10 →
      DrGrI w (.returned (.tuple #[.agg #[.int .i64 r, .int .i64 s, .slice x n c], u])) (((W.setCell ⟨w.heap.size, 0, none⟩ (.int .i64 r)).setCell ⟨w.heap.size, 1, none⟩ (.int .i64 s)).setCell ⟨w.heap.size, 2, none⟩ (.slice x n c)) := by
    intro W u L hg ho hl
    subst hm
    have hsz := hg.size
    have hrw : RowS 55 3 W w2.heap.size w3.heap.size (.slice x es.length c) es.length (flatE es) := hrow5.keep (fun k h1 h2 => hg.block k (by omega) (fun e => by cases e; omega))
    have hbW : Below w1.heap.size w5 W := ⟨hg.os, hg.tape, hg.output, hg.size, fun k hk => hg.block k (by omega) (fun e => by cases e; omega)⟩
    refine ⟨r, s, es, L, hP, hl, x, c, u, rfl, ((hrw.set3_ (.inl (by omega))).read).mono (by rw [size_set3]; omega), ((ho.row (by omega)).keep (fun k h1 h2 => heap_set3 (by omega))).read.mono (by rw [size_set3]; exact Nat.le_refl _), below_set3 (hb15.out.trans (hbW.mono (by omega))) (Nat.le_refl _)⟩
  replace fin := hidI fin
  replace hXC := hidI hXC
  replace hbw5 := hidI hbw5
  replace hR3 := hidI hR3
  replace hR5 := hidI hR5
  replace hrow3 := hidI hrow3
  replace hrow5 := hidI hrow5
  replace hg3 := hidI hg3
  replace hd3 := hidI hd3
  replace hb3 := hidI hb3
  replace hb25 := hidI hb25
  replace hm := hidI hm
  have hsb := hP.2.1
  replace hP := hidI hP
  go_upto_region 3 with (first | rw [hBw.out] | rw [hXw.out] | fail)
  try rw [hXw.out]
  rw [hCw.out]
  clear t0 t1 t2 ft
  obtain ⟨w6, hw6⟩ : ∃ z, z = w5.alloc (.cells #[] 3) := ⟨_, rfl⟩
  have hb6 : Below w5.heap.size w5 w6 := by rw [hw6]; exact (Below.refl _ _).alloc (Nat.le_refl _) _
  have ho6 := hidI (show OwnsI w6 w5.heap.size (.slice (some ⟨w5.heap.size, 0, none⟩) 0 0) [] by rw [hw6]; exact OwnsI.lit w5)
  have hg6 := hidI (grown_below (grown_refl w5 (some g)) hb6)
  have hd6 := hidI (hd5.out.over hb6 hgb)
  have hw6w := hidI hw6.symm
  replace hw6 := hidI hw6
  replace hb6 := hidI hb6
  go_upto_region 4 with fail
  rw [hw6w.out]
  clear x0 x1 x2
  have hbe := below_in hd6.out 8 8 rfl (by omega) (by omega)
  go_wp2_with fail
  refine hbe.mono ?_
  rintro e w7 ⟨t, ⟨tA, tB⟩, rfl, hg7, hd7⟩
  clear hbe
  obtain ⟨tN, rfl⟩ : ∃ tN : Nat, t = (tN : Int) := ⟨t.toNat, by omega⟩
  have hg57 := hidI (grown_trans hg6.out hg7)
  have ho7 := hidI (ho6.out.kept hg7 (by omega))
  have hd7' := hidI hd7
  clear hd7 hg7
  go_wp2
  go_loopg [6, 7] tN (fun gg u i wr => i = .int .i64 (gg : Int) ∧ gg ≤ 7 ∧ Hid (∃ L, OwnsI wr w5.heap.size u L ∧ L.length + gg ≤ 8) ∧ Hid (w5.grownBy wr (some g)) ∧ Hid (Dr w1.heap.size g a len cap wr))
  case atStart => exact ⟨rfl, by omega, hidI ⟨[], ho7.out, by simp; omega⟩, hg57, hd7'⟩
  case round =>
    clear ho6 ho7 hg6 hd6 hg57 hd7'
    obtain ⟨rfl, hk, hst, hgW, hdW⟩ := hrel
    obtain ⟨L, hown, hlk⟩ := hst.out
    have hswr := hgW.out.size
    obtain ⟨ua, uc, hu⟩ : ∃ a c, u6 = Value.slice a L.length c := by
      obtain ⟨_, ⟨h1, h2⟩ | ⟨g, cap, cur, h1, _⟩⟩ := hown
      · exact ⟨none, 0, by rw [h1, h2]⟩
      · exact ⟨_, _, h1⟩
    subst hu
    obtain ⟨m, hm9⟩ : ∃ z, z = L.length := ⟨_, rfl⟩
    have hlL : L.length ≤ 8 := by omega
    rw [← hm9] at hown hlk ⊢
    replace hown := hidI hown
    replace hst := hidI hst
    replace hm9 := hidI hm9
    by_cases hks : 0 < gk
    case neg =>
      obtain rfl : gk = 0 := by omega
      have hXz := (hgW.out.block X (by omega) (fun e => by cases e; omega)).trans hXC.out
      have hRz := (hgW.out.block w.heap.size (by omega) (fun e => by cases e; omega)).trans hR5.out
      have q0 := cell_of_heap hXz 0
      have q1 := cell_of_heap hXz 1
      have q2 := cell_of_heap hXz 2
      have y0 := cell_of_heap hRz 0
      have y1 := cell_of_heap hRz 1
      have y2 := cell_of_heap hRz 2
      have f2 := fun j => frozen_of_row wr w.heap.size j _ _ hRz
      simp at q0 q1 q2 y0 y1 y2
      have hfz := fin.out wr (.slice ua m uc) L hgW.out hown.out (by omega)
      have hset := set3 hRz (.int .i64 r) (.int .i64 s) (.slice x n c)
      replace hfz := hidI hfz
      replace hset := hidI hset
      replace hXz := hidI hXz
      replace hRz := hidI hRz
      go_wp2
      (try simp only [Exit.inBlock, Exit.then])
      refine ret_cell2 (x := (.slice ua m uc)) rfl rfl rfl hset.out Tryz.underlying26 sizeGraph ?_
      exact hfz.out
    case pos =>
      have hki : (0 : Int) < (gk : Int) := by omega
      have hbe := below_in hdW.out 6 6 rfl (by omega) (by omega)
      go_wp2_with fail
      refine hbe.mono ?_
      rintro e wz ⟨t, ⟨tA, tB⟩, rfl, hgz, hdz⟩
      clear hbe
      replace hown := hidI (hown.out.kept hgz (by omega))
      replace hgW := hidI (grown_trans hgW.out hgz)
      replace hdW := hidI hdz
      clear hgz hdz
      have hswz := hgW.out.size
      go_wp2_with (at_builtin; go_must (refine wpList_pushI rfl _ _ rfl w5.heap.size _ L _ rfl rfl (by exact hown.out) (by omega) (by omega) ?_))
      intro v9 w9 hown9 hb9
      have hst9 : Hid (∃ L, OwnsI w9 w5.heap.size v9 L ∧ L.length + (gk - 1) ≤ 8) := hidI ⟨_, hown9, by rw [List.length_append, List.length_singleton]; have := hm9.out; omega⟩
      have hg9 := hidI (grown_below hgW.out hb9)
      have hd9 := hidI (hdW.out.over hb9 hgb)
      clear hown9 hb9
      have hgs : ((gk - 1 : Nat) : Int) = (gk : Int) - 1 := by omega
      go_wp2
      go_roundg (gk - 1)
      case rel => exact ⟨by rw [hgs], by omega, hst9, hg9, hd9⟩
      case measure => omega
set_option maxHeartbeats 12800000 in
set_option maxRecDepth 100000 in
theorem drawRF_any (w : World) (a : Option Addr) (len cap : Nat) (hcode : CodeIn w.heap.size w a len) :
    Calls Tryz.prog 21 #[.slice a len cap] w (DrGrF w) := by
  obtain ⟨w1, hw1⟩ : ∃ z, z = w.alloc (.cells #[.int .i64 0, .int .i64 0, .slice none 0 0] 26) := ⟨_, rfl⟩
  have hb1 : Below w.heap.size w w1 := by rw [hw1]; exact (Below.refl _ _).alloc (Nat.le_refl _) _
  have hs1 : w.heap.size < w1.heap.size := by rw [hw1]; simp
  have hk1 : w1.heap[w.heap.size]? = some (.cells #[.int .i64 0, .int .i64 0, .slice none 0 0] 26 (0, 0)) := by rw [hw1]; exact heap_alloc_new _ _
  have hnew := new_at w1 a len cap ((hcode.below hb1).up hb1.size)
  have hww := hidI hw1.symm
  replace hcode := hidI hcode
  replace hw1 := hidI hw1
  replace hk1 := hidI hk1
  go_enter Tryz.func21, Tryz.ntmps21
  go_upto_region 1 with fail
  rw [hww.out]
  go_wp2_with fail
  refine hnew.mono ?_
  rintro e w2 ⟨g, rfl, hb2, hd2⟩
  clear hnew
  have hgg := g7_in hd2
  have hsz2 := hb2.size
  have hR2 := hidI ((hb2.block _ hs1).trans hk1.out)
  have hb12 := hidI (hb1.trans (hb2.mono hb1.size))
  have hgw1 : w1.heap.size ≤ g := hd2.1.1
  replace hd2 := hidI hd2
  replace hb2 := hidI hb2
  go_wp2_with fail
  refine hgg.mono ?_
  rintro e w3 ⟨r, s, x, c, es, hP, rfl, hrow3, hg3, hd3⟩
  clear hgg
  have hb3 := hd2.out.below hg3
  have hR3 := (hb3.block _ hs1).trans hR2.out
  obtain ⟨n, hm⟩ : ∃ n, n = es.length := ⟨_, rfl⟩
  rw [← hm] at hrow3 ⊢
  have hsz3 := hg3.size
  obtain ⟨X, hX⟩ : ∃ z, z = w3.heap.size := ⟨_, rfl⟩
  obtain ⟨w4, hw4⟩ : ∃ z, z = w3.alloc (.cells #[.int .i64 0, .int .i64 0, .slice none 0 0] 26) := ⟨_, rfl⟩
  have hX0 : w4.heap[X]? = some (.cells #[.int .i64 0, .int .i64 0, .slice none 0 0] 26 (0, 0)) := by rw [hw4, hX]; exact heap_alloc_new _ _
  have hbw4 : Below w3.heap.size w3 w4 := by rw [hw4]; exact (Below.refl _ _).alloc (Nat.le_refl _) _
  obtain ⟨w5, hw5⟩ : ∃ z, z = ((w4.setCell ⟨X, 0, none⟩ (.int .i64 r)).setCell ⟨X, 1, none⟩ (.int .i64 s)).setCell ⟨X, 2, none⟩ (.slice x n c) := ⟨_, rfl⟩
  have hXC : w5.heap[X]? = some (.cells #[.int .i64 r, .int .i64 s, .slice x n c] 26 (0, 0)) := by rw [hw5]; exact set3 hX0 _ _ _
  have hbw5 : Below w3.heap.size w3 w5 := by rw [hw5, hX]; exact below_set3 hbw4 (Nat.le_refl _)
  have hszC := hbw5.size
  have hsw5 : X < w5.heap.size := (Array.getElem?_eq_some_iff.1 hXC).1
  have t0 := cell_of_heap hX0 0
  have t1 := cell_of_heap hX0 1
  have t2 := cell_of_heap hX0 2
  have ft := fun j => frozen_of_row w4 X j _ _ hX0
  have x0 := cell_of_heap hXC 0
  have x1 := cell_of_heap hXC 1
  have x2 := cell_of_heap hXC 2
  simp at t0 t1 t2 x0 x1 x2
  have hBw := hidI hw4.symm
  have hCw := hidI hw5.symm
  have hXw := hidI hX.symm
  replace hw4 := hidI hw4
  replace hw5 := hidI hw5
  replace hX0 := hidI hX0
  replace hX := hidI hX

  have hd5 := hidI (hd3.over hbw5 hd3.lt)
  have hg5 : g < w3.heap.size := hd3.lt
  have hR5 := (hbw5.block _ (by omega)).trans hR3
  have hrow5 : RowS 55 3 w5 w2.heap.size w3.heap.size (.slice x n c) n (flatE es) := hrow3.below hbw5 (Nat.le_refl _)
  have hb25 := hb3.trans (hbw5.mono (by omega))
  have hb15 := hidI (hb12.out.trans (hb25.mono (by omega)))
  have hgX : g < X := by have := hX.out; omega
  have hg2 : g < w2.heap.size := hd2.out.lt
  have hRX : w.heap.size < X := by have := hX.out; omega
  have hRg : w.heap.size ≠ g := by omega
  have hXg : X ≠ g := by omega
  have hgb : g < w5.heap.size := by omega
  have fin : ∀ (W : World) (u : Value) (L : List tupF), w5.grownBy W (some g) → ReadF W.heap.size W u L → L.length ≤ 50 → (∀ k, u.ownBlock = some k → k ≠ w.heap.size) →
      DrGrF w (.returned (.tuple #[.agg #[.int .i64 r, .int .i64 s, .slice x n c], u])) (((W.setCell ⟨w.heap.size, 0, none⟩ (.int .i64 r)).setCell ⟨w.heap.size, 1, none⟩ (.int .i64 s)).setCell ⟨w.heap.size, 2, none⟩ (.slice x n c)) := by
    intro W u L hg ho hl hne
    subst hm
    have hsz := hg.size
    have hrw : RowS 55 3 W w2.heap.size w3.heap.size (.slice x es.length c) es.length (flatE es) := hrow5.keep (fun k h1 h2 => hg.block k (by omega) (fun e => by cases e; omega))
    have hbW : Below w1.heap.size w5 W := ⟨hg.os, hg.tape, hg.output, hg.size, fun k hk => hg.block k (by omega) (fun e => by cases e; omega)⟩
    refine ⟨r, s, es, L, hP, hl, x, c, u, rfl, ((hrw.set3_ (.inl (by omega))).read).mono (by rw [size_set3]; omega), readF_set3 ho hne, below_set3 (hb15.out.trans (hbW.mono (by omega))) (Nat.le_refl _)⟩
  replace fin := hidI fin
  replace hXC := hidI hXC
  replace hbw5 := hidI hbw5
  replace hR3 := hidI hR3
  replace hR5 := hidI hR5
  replace hrow3 := hidI hrow3
  replace hrow5 := hidI hrow5
  replace hg3 := hidI hg3
  replace hd3 := hidI hd3
  replace hb3 := hidI hb3
  replace hb25 := hidI hb25
  replace hm := hidI hm
  have hsb := hP.2.1
  replace hP := hidI hP
  go_upto_region 3 with (first | rw [hBw.out] | rw [hXw.out] | fail)
  try rw [hXw.out]
  rw [hCw.out]
  clear t0 t1 t2 ft
  have hall := specAll w5 r s (.slice x n c) es (by have := hrow5.out.read.mono (show w3.heap.size ≤ w5.heap.size by omega); rw [hm.out] at this ⊢; exact this) (by omega) (by have := hP.out.2.2; omega)
  have hfl := (stN_len r s es 40).2
  obtain ⟨FS, hFS⟩ : ∃ z, z = faS r s es := ⟨_, rfl⟩
  obtain ⟨FE, hFE⟩ : ∃ z, z = faE r s es := ⟨_, rfl⟩
  obtain ⟨FL, hFL⟩ : ∃ z, z = faL r s es := ⟨_, rfl⟩
  change (faL r s es).length ≤ 40 at hfl
  rw [← hFS, ← hFE, ← hFL] at hall
  rw [← hFL] at hfl
  replace hFS := hidI hFS
  replace hFE := hidI hFE
  replace hFL := hidI hFL
  go_wp2_with fail
  refine hall.mono ?_
  rintro e w6 ⟨a6, c6, v6, glo, ghi, flo, fhi, rfl, hdj, hrow0, hrl, hb6⟩
  clear hall
  have hrow := hrow0.read.mono hdj.2.2.1
  obtain ⟨fa6, fc6, rfl⟩ : ∃ a c, v6 = Value.slice a FL.length c := by
    obtain ⟨_, _, ⟨h1, h2⟩ | ⟨g, off, cap, cur, h1, _⟩⟩ := hrl
    · exact ⟨none, 0, by rw [h1, h2]⟩
    · exact ⟨_, _, h1⟩
  have hs6 := hb6.size
  obtain ⟨m6, hm6⟩ : ∃ z, z = FL.length := ⟨_, rfl⟩
  rw [← hm6] at hrl ⊢
  obtain ⟨nE, hnE⟩ : ∃ z, z = FE.length := ⟨_, rfl⟩
  rw [← hnE] at hrow hrow0 ⊢
  obtain ⟨x7, w7, Y7, hAw, hYw, hCw7, t0, t1, t2, ft, bx, hbC⟩ := box_new (r := r) (s := FS) hrow hnE
  have hs7 := hbC.size
  have hbw57 := hb6.trans (hbC.mono hs6)
  have hrl7 := hrl.below hbC hdj.2.2.2.2.2.1
  have hd7 := hidI (hd5.out.over hbw57 hgb)
  have hg7 := hidI (grown_below (grown_refl w5 (some g)) hbw57)
  replace hnE := hidI hnE
  replace hm6 := hidI hm6
  replace hrow := hidI hrow
  replace hrow0 := hidI hrow0
  replace hrl := hidI hrl
  replace hrl7 := hidI hrl7
  replace bx := hidI bx
  replace hbC := hidI hbC
  replace hb6 := hidI hb6
  replace hbw57 := hidI hbw57
  replace hdj := hidI hdj
  clear x0 x1 x2
  go_upto_region 4 with (first | rw [hAw.out] | rw [hYw.out] | fail)
  try rw [hYw.out]
  rw [hCw7.out]
  clear t0 t1 t2 ft
  have hon := once_in hd7.out 3 3 rfl (by omega) (by omega)
  go_wp2_with fail
  refine hon.mono ?_
  rintro e w8 ⟨q8, rfl, hg8, hd8⟩
  clear hon
  have hg58 := hidI (grown_trans hg7.out hg8)
  have hd8' := hidI hd8
  have hrl8 := hidI (hrl7.out.keep (fun k h1 h2 => hg8.block k (by have := hdj.out; omega) (fun e => by cases e; have := hdj.out; omega)))
  have hs8 := hg8.size
  have hfb8 : fhi ≤ w8.heap.size := by have := hdj.out; omega
  have hfw : w5.heap.size ≤ flo := by have := hdj.out; omega
  clear hg8 hd8
  cases q8 with
  | false =>
    have hXz := (hg58.out.block X (by omega) (fun e => by cases e; omega)).trans hXC.out
    have hRz := (hg58.out.block w.heap.size (by omega) (fun e => by cases e; omega)).trans hR5.out
    have q0 := cell_of_heap hXz 0
    have q1 := cell_of_heap hXz 1
    have q2 := cell_of_heap hXz 2
    have y0 := cell_of_heap hRz 0
    have y1 := cell_of_heap hRz 1
    have y2 := cell_of_heap hRz 2
    have f2 := fun j => frozen_of_row w8 w.heap.size j _ _ hRz
    simp at q0 q1 q2 y0 y1 y2
    have hrf : ReadF w8.heap.size w8 (.slice fa6 m6 fc6) FL := by have := hrl8.out.read.mono hfb8; rw [hm6.out] at this ⊢; exact this
    have hfz := fin.out w8 (.slice fa6 m6 fc6) FL hg58.out hrf (by omega) (fun k hk => by
      have := (World.ownsRow.lt hrl8.out.owns k hk).1
      omega)
    have hset := set3 hRz (.int .i64 r) (.int .i64 s) (.slice x n c)
    replace hfz := hidI hfz
    replace hrf := hidI hrf
    replace hset := hidI hset
    replace hXz := hidI hXz
    replace hRz := hidI hRz
    go_wp2
    (try simp only [Exit.inBlock, Exit.then])
    refine ret_cell2 (x := (.slice fa6 m6 fc6)) rfl rfl rfl hset.out Tryz.underlying26 sizeGraph ?_
    exact hfz.out
  | true =>
    have hbe := below_in hd8'.out 3 3 rfl (by omega) (by omega)
    go_wp2_with fail
    refine hbe.mono ?_
    rintro e w9 ⟨t, ⟨tA, tB⟩, rfl, hg9, hd9⟩
    clear hbe
    have hg59 := hidI (grown_trans hg58.out hg9)
    have hrl9 := hrl8.out.keep (fun k h1 h2 => hg9.block k (by omega) (fun e => by cases e; omega))
    have hown9 : Hid (OwnsF w9 flo (.slice fa6 m6 fc6) FL) := hidI (by have := hrl9.owns; rw [hm6.out] at this ⊢; exact this)
    have hs9 := hg9.size
    have hflo9 : flo ≤ w9.heap.size := by have := hdj.out; omega
    replace hrl9 := hidI hrl9
    clear hg9
    go_wp2_with (at_builtin; go_must (refine wpList_pushF rfl _ _ rfl flo _ FL _ _ rfl rfl (by exact hown9.out) (by have := hm6.out; omega) (by omega) ?_))
    intro v10 w10 hown10 hb10
    have hg510 := hidI (show w5.grownBy w10 (some g) from grown_below hg59.out (hb10.mono hfw))
    obtain ⟨L10, hL10⟩ : ∃ z, z = FL ++ [((0 : Int), t)] := ⟨_, rfl⟩
    have hl10 : L10.length ≤ 50 := by rw [hL10, List.length_append, List.length_singleton]; omega
    rw [← hL10] at hown10
    replace hL10 := hidI hL10
    have hrf := OwnsF.read10 hown10 (by omega)
    have hs10 := hg510.out.size
    have hXz := (hg510.out.block X (by omega) (fun e => by cases e; omega)).trans hXC.out
    have hRz := (hg510.out.block w.heap.size (by omega) (fun e => by cases e; omega)).trans hR5.out
    have q0 := cell_of_heap hXz 0
    have q1 := cell_of_heap hXz 1
    have q2 := cell_of_heap hXz 2
    have y0 := cell_of_heap hRz 0
    have y1 := cell_of_heap hRz 1
    have y2 := cell_of_heap hRz 2
    have f2 := fun j => frozen_of_row w10 w.heap.size j _ _ hRz
    simp at q0 q1 q2 y0 y1 y2
    have hfz := fin.out w10 v10 L10 hg510.out hrf (by omega) (fun k hk => by
      have := (World.ownsRow.lt hown10 k hk).1
      omega)
    have hset := set3 hRz (.int .i64 r) (.int .i64 s) (.slice x n c)
    replace hfz := hidI hfz
    replace hrf := hidI hrf
    replace hset := hidI hset
    replace hXz := hidI hXz
    replace hRz := hidI hRz
    replace hown10 := hidI hown10
    clear hb10
    go_wp2
    (try simp only [Exit.inBlock, Exit.then])
    refine ret_cell2 (x := v10) rfl rfl rfl hset.out Tryz.underlying26 sizeGraph ?_
    exact hfz.out
set_option maxHeartbeats 12800000 in
set_option maxRecDepth 100000 in
theorem drawMV_any (w : World) (a : Option Addr) (len cap : Nat) (hcode : CodeIn w.heap.size w a len) :
    Calls Tryz.prog 16 #[.slice a len cap] w (DrGrK w) := by
  obtain ⟨w1, hw1⟩ : ∃ z, z = (w.alloc (.cells #[.int .i64 0, .int .i64 0, .slice none 0 0] 26)).alloc (.cells #[.int .i64 0, .int .i64 0] 37) := ⟨_, rfl⟩
  have hb1 : Below w.heap.size w w1 := by rw [hw1]; exact ((Below.refl _ _).alloc (Nat.le_refl _) _).alloc (by simp) _
  have hs1' : w1.heap.size = w.heap.size + 1 + 1 := by rw [hw1]; simp
  have hs1 : w.heap.size < w1.heap.size := by omega
  have hs12 : w.heap.size + 1 < w1.heap.size := by omega
  have hk1 : w1.heap[w.heap.size]? = some (.cells #[.int .i64 0, .int .i64 0, .slice none 0 0] 26 (0, 0)) := by rw [hw1]; exact heap_box _ _ _
  have hk2 : w1.heap[w.heap.size + 1]? = some (.cells #[.int .i64 0, .int .i64 0] 37 (0, 0)) := by
    have := heap_alloc_new (w.alloc (.cells #[.int .i64 0, .int .i64 0, .slice none 0 0] 26)) (.cells #[.int .i64 0, .int .i64 0] 37)
    rw [← hw1] at this; simpa using this
  replace hs1' := hidI hs1'
  have hnew := new_at w1 a len cap ((hcode.below hb1).up hb1.size)
  have hww := hidI hw1.symm
  replace hcode := hidI hcode
  replace hw1 := hidI hw1
  replace hk1 := hidI hk1
  replace hk2 := hidI hk2
  go_enter Tryz.func16, Tryz.ntmps16
  go_upto_region 1 with fail
  rw [hww.out]
  go_wp2_with fail
  refine hnew.mono ?_
  rintro e w2 ⟨g, rfl, hb2, hd2⟩
  clear hnew
  have hgg := g7_in hd2
  have hsz2 := hb2.size
  have hR2 := hidI ((hb2.block _ hs1).trans hk1.out)
  have hQ2 := hidI ((hb2.block _ hs12).trans hk2.out)
  have hb12 := hidI (hb1.trans (hb2.mono hb1.size))
  have hgw1 : w1.heap.size ≤ g := hd2.1.1
  replace hd2 := hidI hd2
  replace hb2 := hidI hb2
  go_wp2_with fail
  refine hgg.mono ?_
  rintro e w3 ⟨r, s, x, c, es, hP, rfl, hrow3, hg3, hd3⟩
  clear hgg
  have hb3 := hd2.out.below hg3
  have hR3 := (hb3.block _ hs1).trans hR2.out
  have hQ3 := (hb3.block _ hs12).trans hQ2.out
  obtain ⟨n, hm⟩ : ∃ n, n = es.length := ⟨_, rfl⟩
  rw [← hm] at hrow3 ⊢
  have hsz3 := hg3.size
  obtain ⟨X, hX⟩ : ∃ z, z = w3.heap.size := ⟨_, rfl⟩
  obtain ⟨w4, hw4⟩ : ∃ z, z = w3.alloc (.cells #[.int .i64 0, .int .i64 0, .slice none 0 0] 26) := ⟨_, rfl⟩
  have hX0 : w4.heap[X]? = some (.cells #[.int .i64 0, .int .i64 0, .slice none 0 0] 26 (0, 0)) := by rw [hw4, hX]; exact heap_alloc_new _ _
  have hbw4 : Below w3.heap.size w3 w4 := by rw [hw4]; exact (Below.refl _ _).alloc (Nat.le_refl _) _
  obtain ⟨w5, hw5⟩ : ∃ z, z = ((w4.setCell ⟨X, 0, none⟩ (.int .i64 r)).setCell ⟨X, 1, none⟩ (.int .i64 s)).setCell ⟨X, 2, none⟩ (.slice x n c) := ⟨_, rfl⟩
  have hXC : w5.heap[X]? = some (.cells #[.int .i64 r, .int .i64 s, .slice x n c] 26 (0, 0)) := by rw [hw5]; exact set3 hX0 _ _ _
  have hbw5 : Below w3.heap.size w3 w5 := by rw [hw5, hX]; exact below_set3 hbw4 (Nat.le_refl _)
  have hszC := hbw5.size
  have hsw5 : X < w5.heap.size := (Array.getElem?_eq_some_iff.1 hXC).1
  have t0 := cell_of_heap hX0 0
  have t1 := cell_of_heap hX0 1
  have t2 := cell_of_heap hX0 2
  have ft := fun j => frozen_of_row w4 X j _ _ hX0
  have x0 := cell_of_heap hXC 0
  have x1 := cell_of_heap hXC 1
  have x2 := cell_of_heap hXC 2
  simp at t0 t1 t2 x0 x1 x2
  have hBw := hidI hw4.symm
  have hCw := hidI hw5.symm
  have hXw := hidI hX.symm
  replace hw4 := hidI hw4
  replace hw5 := hidI hw5
  replace hX0 := hidI hX0
  replace hX := hidI hX

  have hd5 := hidI (hd3.over hbw5 hd3.lt)
  have hg5 : g < w3.heap.size := hd3.lt
  have hR5 := (hbw5.block _ (by omega)).trans hR3
  have hQ5 := (hbw5.block _ (by omega)).trans hQ3
  have hrow5 : RowS 55 3 w5 w2.heap.size w3.heap.size (.slice x n c) n (flatE es) := hrow3.below hbw5 (Nat.le_refl _)
  have hb25 := hb3.trans (hbw5.mono (by omega))
  have hb15 := hidI (hb12.out.trans (hb25.mono (by omega)))
  have hgX : g < X := by have := hX.out; omega
  have hg2 : g < w2.heap.size := hd2.out.lt
  have hRX : w.heap.size < X := by have := hX.out; omega
  have hRg : w.heap.size ≠ g := by omega
  have hXg : X ≠ g := by omega
  have hgb : g < w5.heap.size := by omega
  have fin : ∀ (W : World) (k d : Int), w5.grownBy W (some g) →
      DrGrK w (.returned (.tuple #[.agg #[.int .i64 r, .int .i64 s, .slice x n c], .agg #[.int .i64 k, .int .i64 d]])) (((((W.setCell ⟨w.heap.size, 0, none⟩ (.int .i64 r)).setCell ⟨w.heap.size, 1, none⟩ (.int .i64 s)).setCell ⟨w.heap.size, 2, none⟩ (.slice x n c)).setCell ⟨w.heap.size + 1, 0, none⟩ (.int .i64 k)).setCell ⟨w.heap.size + 1, 1, none⟩ (.int .i64 d)) := by
    intro W k d hg
    subst hm
    have hsz := hg.size
    have hrw : RowS 55 3 W w2.heap.size w3.heap.size (.slice x es.length c) es.length (flatE es) := hrow5.keep (fun k h1 h2 => hg.block k (by omega) (fun e => by cases e; omega))
    have hbW : Below w1.heap.size w5 W := ⟨hg.os, hg.tape, hg.output, hg.size, fun k hk => hg.block k (by omega) (fun e => by cases e; omega)⟩
    have hr3 := hrw.set3_ (x0 := .int .i64 r) (x1 := .int .i64 s) (x2 := .slice x es.length c) (b := w.heap.size) (.inl (by omega))
    have hr5 : RowS 55 3 (((((W.setCell ⟨w.heap.size, 0, none⟩ (.int .i64 r)).setCell ⟨w.heap.size, 1, none⟩ (.int .i64 s)).setCell ⟨w.heap.size, 2, none⟩ (.slice x es.length c)).setCell ⟨w.heap.size + 1, 0, none⟩ (.int .i64 k)).setCell ⟨w.heap.size + 1, 1, none⟩ (.int .i64 d)) w2.heap.size w3.heap.size (.slice x es.length c) es.length (flatE es) := hr3.keep (fun j h1 h2 => by
      rw [Below.heap_setCell _ _ _ _ (show j ≠ w.heap.size + 1 by omega), Below.heap_setCell _ _ _ _ (show j ≠ w.heap.size + 1 by omega)])
    refine ⟨r, s, es, k, d, hP, x, c, rfl, hr5.read.mono ?_, ?_⟩
    · simp [World.setCell]; omega
    · exact ((below_set3 (hb15.out.trans (hbW.mono (by omega))) (Nat.le_refl _)).setCell (p := ⟨w.heap.size + 1, 0, none⟩) (show w.heap.size ≤ w.heap.size + 1 by omega) _).setCell (p := ⟨w.heap.size + 1, 1, none⟩) (show w.heap.size ≤ w.heap.size + 1 by omega) _
  replace fin := hidI fin
  replace hXC := hidI hXC
  replace hbw5 := hidI hbw5
  replace hR3 := hidI hR3
  replace hR5 := hidI hR5
  replace hrow3 := hidI hrow3
  replace hrow5 := hidI hrow5
  replace hg3 := hidI hg3
  replace hd3 := hidI hd3
  replace hb3 := hidI hb3
  replace hb25 := hidI hb25
  replace hm := hidI hm
  have hsb := hP.2.1
  replace hP := hidI hP
  go_upto_region 3 with (first | rw [hBw.out] | rw [hXw.out] | fail)
  try rw [hXw.out]
  rw [hCw.out]
  clear t0 t1 t2 ft
  have hbew6 := below_in hd5.out 4 4 rfl (by omega) (by omega)
  go_wp2_with fail
  refine hbew6.mono ?_
  rintro e w6 ⟨t1, ⟨t1A, t1B⟩, rfl, hgw6, hdw6⟩
  clear hbew6
  have hg56 := hidI (grown_trans (grown_refl w5 (some g)) hgw6)
  have hd6 := hidI hdw6
  clear hgw6 hdw6
  have hbew7 := below_in hd6.out 2 2 rfl (by omega) (by omega)
  go_wp2_with fail
  refine hbew7.mono ?_
  rintro e w7 ⟨t2, ⟨t2A, t2B⟩, rfl, hgw7, hdw7⟩
  clear hbew7
  have hg57 := hidI (grown_trans hg56.out hgw7)
  have hd7 := hidI hdw7
  clear hgw7 hdw7
  have hbew8 := below_in hd7.out 2 2 rfl (by omega) (by omega)
  go_wp2_with fail
  refine hbew8.mono ?_
  rintro e w8 ⟨t3, ⟨t3A, t3B⟩, rfl, hgw8, hdw8⟩
  clear hbew8
  have hg58 := hidI (grown_trans hg57.out hgw8)
  have hd8 := hidI hdw8
  clear hgw8 hdw8
  have hpr : 0 ≤ t2 * t3 ∧ t2 * t3 ≤ 1 := by
    have h2 : t2 = 0 ∨ t2 = 1 := by omega
    have h3 : t3 = 0 ∨ t3 = 1 := by omega
    rcases h2 with rfl | rfl <;> rcases h3 with rfl | rfl <;> simp
  have hw1' : IntKind.i64.wrap (t2 * t3) = t2 * t3 := IntWalk.i64_in _ ⟨by omega, by omega⟩
  have hw2' : IntKind.i64.wrap (t1 - t2 * t3) = t1 - t2 * t3 := IntWalk.i64_in _ ⟨by omega, by omega⟩
  have hkb : -1 ≤ t1 - t2 * t3 ∧ t1 - t2 * t3 ≤ 3 := by omega
  replace hpr := hidI hpr
  have hsw8 := hg58.out.size
  have hX8 := (hg58.out.block X (by omega) (fun e => by cases e; omega)).trans hXC.out
  have z0 := cell_of_heap hX8 0
  have z1 := cell_of_heap hX8 1
  have z2 := cell_of_heap hX8 2
  simp at z0 z1 z2
  obtain ⟨wd, hwd⟩ : ∃ z, z = w8.drew := ⟨_, rfl⟩
  have hbd : Below w8.heap.size w8 wd := by rw [hwd]; exact below_dn (Below.refl _ _) 1
  have hX8l : X < w8.heap.size := by omega
  replace z0 := below_cell z0 hbd hX8l
  replace z1 := below_cell z1 hbd hX8l
  replace z2 := below_cell z2 hbd hX8l
  have hgl8 : g < w8.heap.size := by omega
  have hd8d := hidI (hd8.out.over hbd hgl8)
  have hg8d := hidI (grown_below hg58.out (hbd.mono hsw8))
  have hbe9 := below_in hd8d.out 4 4 rfl (by omega) (by omega)
  have hwdw := hidI hwd.symm
  replace hwd := hidI hwd
  replace hX8 := hidI hX8
  replace hQ3 := hidI hQ3
  replace hQ5 := hidI hQ5
  clear x0 x1 x2
  go_upto_region 4 with (first | rw [hw1'] | rw [hw2'] | fail)
  try rw [hw1']
  try rw [hw2']
  obtain ⟨kk, hkk⟩ : ∃ z, z = t1 - t2 * t3 := ⟨_, rfl⟩
  rw [← hkk] at hkb ⊢
  replace hkk := hidI hkk
  clear hw1' hw2'
  refine hideQ (fun _ _ d _ _ h => by cases d <;> exact h) (fun Q' hnorm hpan => ?_)
  refine wp_region_held_drew (S := (fun W0 => W0.cell? ⟨X, 0, none⟩ = some (.int .i64 r) ∧ W0.cell? ⟨X, 1, none⟩ = some (.int .i64 s) ∧ W0.cell? ⟨X, 2, none⟩ = some (.slice x n c))) (by kernel_rfl) ?_ (fun hHeld => ?_)
  · try dsimp only
    first | ((repeat' apply And.intro) <;> assumption) | (rw [hwdw.out]; ((repeat' apply And.intro) <;> assumption))
  rw [hwdw.out] at hHeld ⊢
  refine tk 0 19 ?_
  refine tk 1 20 ?_
  refine tk 2 21 ?_
  refine tk 3 22 ?_
  refine rd 4 (fun K hK => ?_)
  rw [if_pos (by rfl)]
  go_simp
  refine hbe9.mono ?_
  rintro e w9 ⟨t4, ⟨t4A, t4B⟩, rfl, hg9, hd9⟩
  clear hbe9
  have hgd := hidI (grown_trans hg8d.out hg9)
  have hsd9 := hgd.out.size
  have hX9 := (hgd.out.block X (by omega) (fun e => by cases e; omega)).trans hXC.out
  have hR9 := (hgd.out.block w.heap.size (by omega) (fun e => by cases e; omega)).trans hR5.out
  have hQ9 := (hgd.out.block (w.heap.size + 1) (by omega) (fun e => by cases e; omega)).trans hQ5.out
  replace z0 := cell_of_heap hX9 0
  replace z1 := cell_of_heap hX9 1
  replace z2 := cell_of_heap hX9 2
  have y0 := cell_of_heap hR9 0
  have y1 := cell_of_heap hR9 1
  have y2 := cell_of_heap hR9 2
  have f2 := fun j => frozen_of_row w9 w.heap.size j _ _ hR9
  simp at z0 z1 z2 y0 y1 y2
  obtain ⟨w10, hw10⟩ : ∃ z, z = ((w9.setCell ⟨w.heap.size, 0, none⟩ (.int .i64 r)).setCell ⟨w.heap.size, 1, none⟩ (.int .i64 s)).setCell ⟨w.heap.size, 2, none⟩ (.slice x n c) := ⟨_, rfl⟩
  have hX10 : w10.heap[X]? = _ := (by rw [hw10]; exact heap_set3 (by omega) : w10.heap[X]? = w9.heap[X]?).trans hX9
  have hR10 : w10.heap[w.heap.size]? = some (.cells #[.int .i64 r, .int .i64 s, .slice x n c] 26 (0, 0)) := by rw [hw10]; exact Go.Proofs.YtgngfffmkjckdaaGreatDoor.set3 hR9 _ _ _
  have hQ10 : w10.heap[w.heap.size + 1]? = _ := (by rw [hw10]; exact heap_set3 (by omega) : w10.heap[w.heap.size + 1]? = w9.heap[w.heap.size + 1]?).trans hQ9
  have v0 := cell_of_heap hX10 0
  have v1 := cell_of_heap hX10 1
  have v2 := cell_of_heap hX10 2
  have u0 := cell_of_heap hQ10 0
  have u1 := cell_of_heap hQ10 1
  have fu := fun j => frozen_of_row w10 (w.heap.size + 1) j _ _ hQ10
  simp at v0 v1 v2 u0 u1
  obtain ⟨w11, hw11⟩ : ∃ z, z = (w10.setCell ⟨w.heap.size + 1, 0, none⟩ (.int .i64 kk)).setCell ⟨w.heap.size + 1, 1, none⟩ (.int .i64 (kk + t4)) := ⟨_, rfl⟩
  have hX11 : w11.heap[X]? = _ := (by rw [hw11, Below.heap_setCell _ _ _ _ (show X ≠ w.heap.size + 1 by omega), Below.heap_setCell _ _ _ _ (show X ≠ w.heap.size + 1 by omega)] : w11.heap[X]? = w10.heap[X]?).trans hX10
  have hR11 : w11.heap[w.heap.size]? = _ := (by rw [hw11, Below.heap_setCell _ _ _ _ (show w.heap.size ≠ w.heap.size + 1 by omega), Below.heap_setCell _ _ _ _ (show w.heap.size ≠ w.heap.size + 1 by omega)] : w11.heap[w.heap.size]? = w10.heap[w.heap.size]?).trans hR10
  have hQ11 : w11.heap[w.heap.size + 1]? = some (.cells #[.int .i64 kk, .int .i64 (kk + t4)] 37 (0, 0)) := by rw [hw11]; exact set2F hQ10 _ _
  have s0 := cell_of_heap hX11 0
  have s1 := cell_of_heap hX11 1
  have s2 := cell_of_heap hX11 2
  simp at s0 s1 s2
  have hfz := fin.out w9 kk (kk + t4) hgd.out
  rw [← hw10, ← hw11] at hfz
  have hw10w := hidI hw10.symm
  have hw11w := hidI hw11.symm
  have hkt : IntKind.i64.wrap (kk + t4) = kk + t4 := IntWalk.i64_in _ ⟨by omega, by omega⟩
  replace hfz := hidI hfz
  replace hw10 := hidI hw10
  replace hw11 := hidI hw11
  replace hX9 := hidI hX9
  replace hX10 := hidI hX10
  replace hX11 := hidI hX11
  replace hR9 := hidI hR9
  replace hR10 := hidI hR10
  replace hR11 := hidI hR11
  replace hQ9 := hidI hQ9
  replace hQ10 := hidI hQ10
  replace hQ11 := hidI hQ11
  replace hg9 := hidI hg9
  replace hd9 := hidI hd9
  refine hK.out _ _ ?_ (fun hHeld => ?_)
  · try dsimp only
    first | ((repeat' apply And.intro) <;> assumption) | (rw [hwdw.out]; ((repeat' apply And.intro) <;> assumption))
  clear hK
  try simp only [Act.put, List.setIfInBounds_toArray, List.set_cons_zero, List.set_cons_succ]
  refine tk 5 24 ?_
  refine tk 6 25 ?_
  refine rd 7 (fun K hK => ?_)
  rw [if_pos (by rfl)]
  go_simp
  rw [hw10w.out]
  clear y0 y1 y2 f2
  refine hK.out _ _ ?_ (fun hHeld => ?_)
  · try dsimp only
    first | ((repeat' apply And.intro) <;> assumption) | (rw [hwdw.out]; ((repeat' apply And.intro) <;> assumption))
  clear hK
  try simp only [Act.put, List.setIfInBounds_toArray, List.set_cons_zero, List.set_cons_succ]
  refine rd 8 (fun K hK => ?_)
  rw [if_pos (by rfl)]
  go_simp
  rw [hw11w.out]
  clear u0 u1 fu
  refine hK.out _ _ ?_ (fun hHeld => ?_)
  · try dsimp only
    first | ((repeat' apply And.intro) <;> assumption) | (rw [hwdw.out]; ((repeat' apply And.intro) <;> assumption))
  clear hK
  try simp only [Act.put, List.setIfInBounds_toArray, List.set_cons_zero, List.set_cons_succ]
  refine wpAnyH_done (by kernel_rfl) ?_ _
  refine hnorm _ _ ?_
  clear hnorm hpan
  repeat clear hHeld
  try simp only [Exit.then]
  go_wp2_with fail
  (try simp only [Exit.inBlock, Exit.then])
  refine ret_cell22 rfl rfl rfl hR11.out hQ11.out Tryz.underlying26 sizeGraph Tryz.underlying37 sizeFoldL ?_
  exact hfz.out
end Go.Proofs.YtgngfffmkjckdaaGreatDoor
