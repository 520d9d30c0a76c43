import Derived.Test.YtfpklgmahbhecaaGreatRT
import Derived.Test.YtfpklgmahbhecaaGreatBX
import Derived.Test.YtfpklgmahbhecaaGreatYH
import Derived.Test.YtfpklgmahbhecaaGreatTR
import Derived.Deep.Cut
import Derived.Deep.LoopGhost
import Derived.Deep.RegionHeld3
namespace Go.Proofs.YtfpklgmahbhecaaGreat
open Go.RowKit
set_option linter.unusedVariables false
set_option linter.unusedSimpArgs false
def DrGrI (w : World) (e : Ending) (w' : World) : Prop :=
 ∃ r s es zs, Gr0 r s es ∧ zs.length ≤ 10 ∧ ∃ a cap v, e = .returned (.tuple #[.agg #[.int .i64 r, .int .i64 s, .slice a es.length cap], v]) ∧ ReadE w'.heap.size w' (.slice a es.length cap) es ∧ ReadI w'.heap.size w' v zs ∧ Below w.heap.size w w'
set_option maxHeartbeats 12800000 in
set_option maxRecDepth 100000 in
theorem drawFO_any (w : World) (a : Option Addr) (len cap : Nat) (hcode : CodeIn w.heap.size w a len) :
 Calls Tryz.prog 5 #[.slice a len cap] w (DrGrI w) := by
 obtain ⟨w1, hw1⟩ := exq (w.alloc (.cells #[.int .i64 0, .int .i64 0, .slice none 0 0] 26))
 have hb1 : Below w.heap.size w w1 := by rw [hw1]; exact (Below.refl _ _).alloc (Nat.le_refl _) _
 have hs1 : w.heap.size < w1.heap.size := by rw [hw1]; simp
 have hk1 : w1.heap[w.heap.size]? = some (.cells #[.int .i64 0, .int .i64 0, .slice none 0 0] 26 (0, 0)) := by rw [hw1]; exact heap_alloc_new _ _
 have hnew := new_at w1 a len cap ((hcode.below hb1).up hb1.size)
 have hww := hidI hw1.symm
 replace hcode := hidI hcode
 replace hw1 := hidI hw1
 replace hk1 := hidI hk1
 go_enter Tryz.func5, Tryz.ntmps5
 go_upto_region 1 with fail
 rw [hww.out]
 go_wp2_with fail
 refine hnew.mono ?_
 rintro e w2 ⟨g, rfl, hb2, hd2⟩
 clear hnew
 have hgg := g7_in hd2
 have hsz2 := hb2.size
 have hR2 := hidI ((hb2.block _ hs1).trans hk1.out)
 have hb12 := hidI (hb1.trans (hb2.mono hb1.size))
 have hgw1 : w1.heap.size ≤ g := hd2.1.1
 replace hd2 := hidI hd2
 replace hb2 := hidI hb2
 go_wp2_with fail
 refine hgg.mono ?_
 rintro e w3 ⟨r, s, x, c, es, hP, rfl, hrow3, hg3, hd3⟩
 clear hgg
 have hb3 := hd2.out.below hg3
 have hR3 := (hb3.block _ hs1).trans hR2.out
 obtain ⟨n, hm⟩ := exq es.length
 rw [← hm] at hrow3 ⊢
 have hsz3 := hg3.size
 obtain ⟨X, hX⟩ := exq w3.heap.size
 obtain ⟨w4, hw4⟩ := exq (w3.alloc (.cells #[.int .i64 0, .int .i64 0, .slice none 0 0] 26))
 have hX0 : w4.heap[X]? = some (.cells #[.int .i64 0, .int .i64 0, .slice none 0 0] 26 (0, 0)) := by rw [hw4, hX]; exact heap_alloc_new _ _
 have hbw4 : Below w3.heap.size w3 w4 := by rw [hw4]; exact (Below.refl _ _).alloc (Nat.le_refl _) _
 obtain ⟨w5, hw5⟩ := exq (((w4.setCell ⟨X, 0, none⟩ (.int .i64 r)).setCell ⟨X, 1, none⟩ (.int .i64 s)).setCell ⟨X, 2, none⟩ (.slice x n c))
 have hXC : w5.heap[X]? = some (.cells #[.int .i64 r, .int .i64 s, .slice x n c] 26 (0, 0)) := by rw [hw5]; exact set3 hX0 _ _ _
 have hbw5 : Below w3.heap.size w3 w5 := by rw [hw5, hX]; exact below_set3 hbw4 (Nat.le_refl _)
 have hszC := hbw5.size
 have hsw5 : X < w5.heap.size := (Array.getElem?_eq_some_iff.1 hXC).1
 obtain ⟨t0, t1, t2⟩ := cell3 hX0
 have ft := fun j => frozen_of_row w4 X j _ _ hX0
 obtain ⟨x0, x1, x2⟩ := cell3 hXC
 simp at t0 t1 t2 x0 x1 x2
 have hBw := hidI hw4.symm
 have hCw := hidI hw5.symm
 have hXw := hidI hX.symm
 replace hw4 := hidI hw4
 replace hw5 := hidI hw5
 replace hX0 := hidI hX0
 replace hX := hidI hX
 have hd5 := hidI (hd3.over hbw5 hd3.lt)
 have hg5 : g < w3.heap.size := hd3.lt
 have hR5 := (hbw5.block _ (by omega)).trans hR3
 have hrow5 : RowS 53 3 w5 w2.heap.size w3.heap.size (.slice x n c) n (flatE es) := hrow3.below hbw5 (Nat.le_refl _)
 have hb25 := hb3.trans (hbw5.mono (by omega))
 have hb15 := hidI (hb12.out.trans (hb25.mono (by omega)))
 have hgX : g < X := by have := hX.out; omega
 have hg2 : g < w2.heap.size := hd2.out.lt
 have hRX : w.heap.size < X := by have := hX.out; omega
 have hRg : w.heap.size ≠ g := by omega
 have hXg : X ≠ g := by omega
 have hgb : g < w5.heap.size := by omega
 have fin : ∀ (W : World) (u : Value) (L : List Int), w5.grownBy W (some g) → OwnsI W w5.heap.size u L → L.length ≤ 10 →
  DrGrI w (.returned (.tuple #[.agg #[.int .i64 r, .int .i64 s, .slice x n c], u])) (((W.setCell ⟨w.heap.size, 0, none⟩ (.int .i64 r)).setCell ⟨w.heap.size, 1, none⟩ (.int .i64 s)).setCell ⟨w.heap.size, 2, none⟩ (.slice x n c)) := by
  intro W u L hg ho hl
  subst hm
  have hsz := hg.size
  have hrw : RowS 53 3 W w2.heap.size w3.heap.size (.slice x es.length c) es.length (flatE es) := hrow5.keep (fun k h1 h2 => hg.block k (by omega) (fun e => by cases e; omega))
  have hbW : Below w1.heap.size w5 W := ⟨hg.os, hg.tape, hg.output, hg.size, fun k hk => hg.block k (by omega) (fun e => by cases e; omega)⟩
  refine ⟨r, s, es, L, hP, hl, x, c, u, rfl, ((hrw.set3_ (.inl (by omega))).read).mono (by rw [size_set3]; omega), ((ho.row (by omega)).keep (fun k h1 h2 => heap_set3 (by omega))).read.mono (by rw [size_set3]; exact Nat.le_refl _), below_set3 (hb15.out.trans (hbW.mono (by omega))) (Nat.le_refl _)⟩
 replace fin := hidI fin
 replace hXC := hidI hXC
 replace hbw5 := hidI hbw5
 replace hR3 := hidI hR3
 replace hR5 := hidI hR5
 replace hrow3 := hidI hrow3
 replace hrow5 := hidI hrow5
 replace hg3 := hidI hg3
 replace hd3 := hidI hd3
 replace hb3 := hidI hb3
 replace hb25 := hidI hb25
 replace hm := hidI hm
 have hsb := hP.2.1
 replace hP := hidI hP
 go_upto_region 3 with (first | rw [hBw.out] | rw [hXw.out] | fail)
 try rw [hXw.out]
 rw [hCw.out]
 clear t0 t1 t2 ft
 obtain ⟨w6, hw6⟩ := exq (w5.alloc (.cells #[] 3))
 have hb6 : Below w5.heap.size w5 w6 := by rw [hw6]; exact (Below.refl _ _).alloc (Nat.le_refl _) _
 have ho6 := hidI (show OwnsI w6 w5.heap.size (.slice (some ⟨w5.heap.size, 0, none⟩) 0 0) [] by rw [hw6]; exact OwnsI.lit w5)
 have hg6 := hidI (grown_below (grown_refl w5 (some g)) hb6)
 have hd6 := hidI (hd5.out.over hb6 hgb)
 have hw6w := hidI hw6.symm
 replace hw6 := hidI hw6
 replace hb6 := hidI hb6
 go_upto_region 4 with fail
 rw [hw6w.out]
 clear x0 x1 x2
 have hbe := below_in hd6.out 8 8 rfl (by omega) (by omega)
 go_wp2_with fail
 refine hbe.mono ?_
 rintro e w7 ⟨t, ⟨tA, tB⟩, rfl, hg7, hd7⟩
 clear hbe
 obtain ⟨tN, rfl⟩ : ∃ tN : Nat, t = (tN : Int) := ⟨t.toNat, by omega⟩
 have hg57 := hidI (grown_trans hg6.out hg7)
 have ho7 := hidI (ho6.out.kept hg7 (by omega))
 have hd7' := hidI hd7
 clear hd7 hg7
 go_wp2
 go_loopg [6, 7] tN (fun gg u i wr => i = .int .i64 (gg : Int) ∧ gg ≤ 7 ∧ Hid (∃ L, OwnsI wr w5.heap.size u L ∧ L.length + gg ≤ 8) ∧ Hid (w5.grownBy wr (some g)) ∧ Hid (Dr w1.heap.size g a len cap wr))
 case atStart => exact ⟨rfl, by omega, hidI ⟨[], ho7.out, by simp; omega⟩, hg57, hd7'⟩
 case round =>
  clear ho6 ho7 hg6 hd6 hg57 hd7'
  obtain ⟨rfl, hk, hst, hgW, hdW⟩ := hrel
  obtain ⟨L, hown, hlk⟩ := hst.out
  have hswr := hgW.out.size
  obtain ⟨ua, uc, hu⟩ : ∃ a c, u6 = Value.slice a L.length c := by
   obtain ⟨_, ⟨h1, h2⟩ | ⟨g, cap, cur, h1, _⟩⟩ := hown
   · exact ⟨none, 0, by rw [h1, h2]⟩
   · exact ⟨_, _, h1⟩
  subst hu
  obtain ⟨m, hm9⟩ := exq L.length
  have hlL : L.length ≤ 8 := by omega
  rw [← hm9] at hown hlk ⊢
  replace hown := hidI hown
  replace hst := hidI hst
  replace hm9 := hidI hm9
  by_cases hks : 0 < gk
  case neg =>
   obtain rfl : gk = 0 := by omega
   have hXz := (hgW.out.block X (by omega) (fun e => by cases e; omega)).trans hXC.out
   have hRz := (hgW.out.block w.heap.size (by omega) (fun e => by cases e; omega)).trans hR5.out
   obtain ⟨q0, q1, q2⟩ := cell3 hXz
   obtain ⟨y0, y1, y2⟩ := cell3 hRz
   have f2 := fun j => frozen_of_row wr w.heap.size j _ _ hRz
   simp at q0 q1 q2 y0 y1 y2
   have hfz := fin.out wr (.slice ua m uc) L hgW.out hown.out (by omega)
   have hset := set3 hRz (.int .i64 r) (.int .i64 s) (.slice x n c)
   replace hfz := hidI hfz
   replace hset := hidI hset
   replace hXz := hidI hXz
   replace hRz := hidI hRz
   go_wp2
   (try simp only [Exit.inBlock, Exit.then])
   refine ret_cell2 (x := (.slice ua m uc)) rfl rfl rfl hset.out Tryz.underlying26 sizeGraph ?_
   exact hfz.out
  case pos =>
   have hki : (0 : Int) < (gk : Int) := by omega
   have hbe := below_in hdW.out 6 6 rfl (by omega) (by omega)
   go_wp2_with fail
   refine hbe.mono ?_
   rintro e wz ⟨t, ⟨tA, tB⟩, rfl, hgz, hdz⟩
   clear hbe
   replace hown := hidI (hown.out.kept hgz (by omega))
   replace hgW := hidI (grown_trans hgW.out hgz)
   replace hdW := hidI hdz
   clear hgz hdz
   have hswz := hgW.out.size
   go_wp2_with (at_builtin; go_must (refine wpList_pushI rfl _ _ rfl w5.heap.size _ L _ rfl rfl (by exact hown.out) (by omega) (by omega) ?_))
   intro v9 w9 hown9 hb9
   have hst9 : Hid (∃ L, OwnsI w9 w5.heap.size v9 L ∧ L.length + (gk - 1) ≤ 8) := hidI ⟨_, hown9, by rw [List.length_append, List.length_singleton]; have := hm9.out; omega⟩
   have hg9 := hidI (grown_below hgW.out hb9)
   have hd9 := hidI (hdW.out.over hb9 hgb)
   clear hown9 hb9
   have hgs : ((gk - 1 : Nat) : Int) = (gk : Int) - 1 := by omega
   go_wp2
   go_roundg (gk - 1)
   case rel => exact ⟨by rw [hgs], by omega, hst9, hg9, hd9⟩
   case measure => omega
end Go.Proofs.YtfpklgmahbhecaaGreat
