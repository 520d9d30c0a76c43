import Derived.Deep.Cut
import Derived.Deep.LoopGhost
import Derived.Deep.RegionHeld3
import Derived.WalkKit
import Derived.ProofKit
import Derived.Test.YtgnomlcjikfdhaaGreatJ42Me
import Derived.Test.YtgnomlcjikfdhaaGreatJ15Me
import Derived.Test.YtgnomlcjikfdhaaGreatRows
import Derived.Test.YtgnomlcjikfdhaaGreatJ0Me
import Derived.Test.YtgnomlcjikfdhaaGreatJ6Me
import Derived.Test.YtgnomlcjikfdhaaGreatJ5Me
import Derived.Test.YtgnomlcjikfdhaaGreatJ11Me
import Derived.Test.YtgnomlcjikfdhaaGreatJ37Me
import Derived.Test.YtgnomlcjikfdhaaGreatJ34Me
import Derived.Test.YtgnomlcjikfdhaaGreatJ8Me
namespace Go.Proofs.YtgnomlcjikfdhaaGreat
open Go.RowKit
set_option linter.unusedVariables false
set_option linter.unusedSimpArgs false
def Ht (w : World) (e : Ending) (w' : World) : Prop := ∃ (r s : Int) (es : List Ed) (x : Option Addr) (c : Nat) (v : Value) (zss : List (List Int)), nM r s es ∧ (zss.length ≤ 3 ∧ ∀ z ∈ zss, bi z ∧ z.length ≤ 6) ∧
 e = .returned (.tuple #[.agg #[.int .i64 r, .int .i64 s, .slice x es.length c], v]) ∧ aF 36 3 w' w.heap.size w'.heap.size (.slice x es.length c) es.length (aC es) ∧ dJ w'.heap.size w' v zss ∧ Below w.heap.size w w'
theorem mO.blocks {w w' : World} {base : Nat} {v : Value} {us : List Value} {zss : List (List Int)} (h : mO w base v us zss) (hs : w.heap.size ≤ w'.heap.size) (hb : ∀ k, base ≤ k → w'.heap[k]? = w.heap[k]?) : mO w' base v us zss := by
 obtain ⟨h1, h2, h3⟩ := h; have hl := World.ownsRow.lt h1; refine ⟨bU.other h1 (fun k hk => hb k (hl k hk).1), h2, fun i hi => ?_⟩
 obtain ⟨lo, hi2, q1, q2, q3, q4⟩ := h3 i hi; exact ⟨lo, hi2, q1.keep (fun k a1 a2 => hb k (by omega)), q2, Nat.le_trans q3 hs, q4⟩
theorem bg.form' {w : World} {lo hi : Nat} {v : Value} {zs : List Int} (h : bg w lo hi v zs) : ∃ a m c, v = .slice a m c := by
 rcases h.block with ⟨rfl, _⟩ | ⟨b, hb, _⟩
 · exact ⟨_, _, _, rfl⟩
 · cases v <;> first | exact ⟨_, _, _, rfl⟩ | (simp [Value.ownBlock] at hb)
set_option maxHeartbeats 12800000 in
set_option maxRecDepth 100000 in
theorem AX (w : World) (a : Option Addr) (len cap : Nat) (hcode : eF w.heap.size w a len) :
 Calls Tryz.prog 30 #[.slice a len cap] w (Ht w) := by
 obtain ⟨w1, hw1⟩ := ag (w.alloc (.cells #[.int .i64 0, .int .i64 0, .slice none 0 0] 26)); have hb1 : Below w.heap.size w w1 := by rw [hw1]; exact (Below.refl _ _).alloc (nl _) _
 have hs1 : w.heap.size < w1.heap.size := by rw [hw1]; simp
 have hk1 : w1.heap[w.heap.size]? = some (.cells #[.int .i64 0, .int .i64 0, .slice none 0 0] 26 (0, 0)) := by rw [hw1]; exact heap_alloc_new _ _
 have hnew := uC w1 a len cap ((hcode.below hb1).up hb1.size); have hww := ae hw1.symm; replace hcode := ae hcode; replace hw1 := ae hw1; replace hk1 := ae hk1; go_enter Tryz.func30, Tryz.ntmps30
 go_upto_region 1 with fail
 rw [hww.out]; go_wp2_with fail; refine hnew.mono ?_; rintro e w2 ⟨g, rfl, hb2, hd2⟩; clear hnew; have hgg := uK hd2; have hsz2 := hb2.size; have hR2 := ae ((hb2.block _ hs1).trans hk1.out); have hb12 := ae (hb1.trans (hb2.mono hb1.size)); have hg23 := ae hd2.lt; have hgne : w1.heap.size ≤ g := hd2.1.1; replace hd2 := ae hd2; replace hb2 := ae hb2; go_wp2_with fail; refine hgg.mono ?_; rintro e w3 ⟨r, s, x, c, es, hP, rfl, hrow3, hg3, hd3⟩
 clear hgg; have hb3 := hd2.out.below hg3; have hRz := (hb3.block _ hs1).trans hR2.out; obtain ⟨n, hm⟩ := ag es.length; rw [← hm] at hrow3 ⊢; have hsz3 := hg3.size; have hb13 := ae (hb12.out.trans (hb3.mono (by omega)))
 obtain ⟨w4, hw4⟩ := ag (w3.alloc (.cells #[.int .i64 r, .int .i64 s, .slice x n c] 26)); have hb34 : Below w3.heap.size w3 w4 := by rw [hw4]; exact (Below.refl _ _).alloc (nl _) _
 have hs4 : w3.heap.size < w4.heap.size := by rw [hw4]; simp
 have hd4 : Dr w1.heap.size g a len cap w4 := by rw [hw4]; exact hd3.alloc _
 obtain ⟨g0, g1, g2⟩ := bT hw4; have hw4' := ae hw4.symm; have hR4 := ae ((hb34.block _ (show w.heap.size < w3.heap.size by omega)).trans hRz)
 obtain ⟨GB, hGB⟩ := ag w3.heap.size; rw [← hGB] at g0 g1 g2; have hGlt : GB < w4.heap.size := by omega
 have hGR : w.heap.size < GB := by omega
 have hG2 : GB ≠ g := by have := hd3.lt; omega
 have hrow4 : aF 36 3 w4 w2.heap.size w3.heap.size (.slice x n c) n (aC es) := hrow3.below hb34 (nl _); have hb24 := ae (hb13.out.trans (hb34.mono (by omega)))
 have hg2lt := hg23.out; have hfin : ∀ (W : World) (v : Value) (us : List Value) (zss : List (List Int)), Below w.heap.size w W → aF 36 3 W w2.heap.size w3.heap.size (.slice x n c) n (aC es) → w3.heap.size ≤ W.heap.size → (zss.length ≤ 3 ∧ ∀ z ∈ zss, bi z ∧ z.length ≤ 6) → mO W w4.heap.size v us zss →
  Ht w (.returned (.tuple #[.agg #[.int .i64 r, .int .i64 s, .slice x n c], v])) (((W.setCell ⟨w.heap.size, 0, none⟩ (.int .i64 r)).setCell ⟨w.heap.size, 1, none⟩ (.int .i64 s)).setCell ⟨w.heap.size, 2, none⟩ (.slice x n c)) := fun W v us zss hb hr hsz hz hi => by
  subst hm; exact ⟨r, s, es, x, c, v, zss, hP, hz, rfl, (hr.set3_ (.inl (by omega))).wide (by omega) (by rw [aW]; exact hsz),
   (hi.blocks (by rw [aW]; exact nl _) (fun k h1 => dS (by omega))).read (by omega), aN hb (nl _)⟩
 have hwrd := fun (W : World) (hd : Dr w1.heap.size g a len cap W) (hr : aF 36 3 W w2.heap.size w3.heap.size (.slice x n c) n (aC es)) (hh : w3.heap.size ≤ W.heap.size) => Bf hd r s x n c es hm w2.heap.size w3.heap.size hr hg23.out hh hP
 replace hfin := ae hfin; replace hwrd := ae hwrd; replace hrow3 := ae hrow3; replace hrow4 := ae hrow4; replace hm := ae hm; replace hP := ae hP; replace hg3 := ae hg3; replace hd3 := ae hd3; replace hb3 := ae hb3; replace hb34 := ae hb34; replace hGB := ae hGB; replace hRz := ae hRz; obtain ⟨w5, hw5⟩ := ag (w4.alloc (.cells #[] 33)); have hd5 : Dr w1.heap.size g a len cap w5 := by rw [hw5]; exact hd4.alloc _
 have hs5 : w5.heap.size = w4.heap.size + 1 := by rw [hw5]; simp
 have hg45 : w4.grownBy w5 (some g) := by rw [hw5]; exact World.grownBy_alloc w4 _ (some g)
 have hst5 : mO w5 w4.heap.size (.slice (some ⟨w4.heap.size, 0, none⟩) 0 0) [] [] := by rw [hw5]; exact ⟨bU.lit w4, rfl, fun i hi => by simp at hi⟩
 have hg4 : g < w4.heap.size := hd4.lt; have hw5' := ae hw5.symm; replace hw5 := ae hw5; replace hd4 := ae hd4; go_upto_region 3 with fail
 rw [hw4'.out, ← hGB.out]; replace hw4 := ae hw4; have hbl := dG hd5 4 4 rfl (by omega) (by omega)
 replace hd5 := ae hd5; replace hst5 := ae hst5; replace hg45 := ae hg45; go_upto_region 4 with fail
 rw [hw5'.out]; go_wp2_with fail; refine hbl.mono ?_; rintro e w6 ⟨n0, ⟨n1, n2⟩, rfl, hg6, hd6⟩; obtain ⟨N, rfl⟩ := Int.eq_ofNat_of_zero_le n1; clear hbl; have hsz6 := hg6.size; have hst6 := ae (hst5.out.kept hg6 hg4); have hg46 := ae (aj hg45.out hg6); replace hd6 := ae hd6; replace hg6 := ae hg6; go_wp2_with fail
 go_loopg [6, 7] N (fun gg u k wr => k = .int .i64 (gg : Nat) ∧ gg ≤ N ∧ Hid (∃ us zss, mO wr w4.heap.size u us zss ∧ zss.length + gg = N ∧ ∀ z ∈ zss, bi z ∧ z.length ≤ 6) ∧ Hid (w4.grownBy wr (some g)) ∧ Hid (Dr w1.heap.size g a len cap wr))
 case atStart => exact ⟨rfl, nl _, ae ⟨[], [], hst6.out, by simp, fun z hz => by cases hz⟩, hg46, hd6⟩
 case round =>
  clear hst6; obtain ⟨rfl, hgn, hst, hgr, hdr⟩ := hrel; obtain ⟨us, zss, hst3, hzl, hz5⟩ := hst.out; have hszr := hgr.out.size; have p0 := (World.cell?_of_block (a := (⟨GB, 0, none⟩ : Addr)) (hgr.out.block GB (by omega) (fun e => by cases e; exact hG2 rfl))).trans g0
  have p1 := (World.cell?_of_block (a := (⟨GB, 1, none⟩ : Addr)) (hgr.out.block GB (by omega) (fun e => by cases e; exact hG2 rfl))).trans g1
  have p2 := (World.cell?_of_block (a := (⟨GB, 2, none⟩ : Addr)) (hgr.out.block GB (by omega) (fun e => by cases e; exact hG2 rfl))).trans g2
  have hrowr := ae (hrow4.out.keep (w' := wr) (fun k h1 h2 => hgr.out.block k (by omega) (fun e => by cases e; omega)))
  obtain ⟨ua, ucp, rfl⟩ := bU.form hst3.1; have hvlt : ∀ k, Value.ownBlock (.slice ua us.length ucp) = some k → k < wr.heap.size := fun k hk => (World.ownsRow.lt hst3.1 k hk).2
  obtain ⟨nu, hnu⟩ := ag us.length; have hnz : nu ≤ 3 := by have := hst3.2.1; omega
  rw [← hnu] at hvlt hst3 ⊢; replace hz5 := ae hz5; replace hvlt := ae hvlt; by_cases hg0 : 0 < gk
  · have hgi : (0 : Int) < (gk : Int) := by omega
    have hof := hwrd.out wr hdr.out hrowr.out (by omega)
    replace hst3 := ae hst3; replace hst := ae hst; replace hnu := ae hnu; replace hzl := ae hzl; go_wp2_with fail; refine hof.mono ?_; rintro e w7 ⟨uv, zs, hW, rfl, hrow7, hg7, hd7⟩; clear hof; have hsz7 := hg7.size; obtain ⟨va, vm, vc, rfl⟩ := hrow7.form'; have hst7 := hst3.out.kept hg7 hg4; have hw7 := aj hgr.out hg7; have hw7s := hw7.size; replace hW := ae hW; replace hrow7 := ae hrow7; replace hst7 := ae hst7
    replace hw7 := ae hw7; replace hd7 := ae hd7; replace hg7 := ae hg7; clear p0 p1 p2; go_wp2_with (at_builtin; go_must (refine l7 rfl _ _ rfl w4.heap.size (.slice ua nu ucp) us va vm vc rfl rfl (by exact hst7.out.1) (by have := hnu.out; omega) (by omega) ?_))
    intro v' w8 ho8 hg8 hl8; have hst8 := hst7.out.push hvlt.out hszr hrow7.out ho8 hg8 hl8; have hb8 : Below w4.heap.size w7 w8 := ((Below.refl w4.heap.size w7).alloc (by omega) _).grown hg8 (by simp; omega) (fun k hk => (World.ownsRow.lt hst7.out.1 k hk).1)
    have hw8 := ae (grown_below hw7.out hb8); have hd8 := ae (hd7.out.over hb8 hg4); have hrel' := ae (show ∃ us zss, mO w8 w4.heap.size v' us zss ∧ zss.length + (gk - 1) = N ∧ ∀ z ∈ zss, bi z ∧ z.length ≤ 6 from ⟨_, _, hst8, by have := hzl.out; simp; omega, fun z hz => by
     rcases List.mem_append.1 hz with h1 | h1
     · exact hz5.out z h1
     · rw [List.mem_singleton] at h1; rw [h1]; exact hW.out⟩)
    clear ho8 hg8 hl8 hst8 hb8; go_wp2; go_roundg (gk - 1)
    case rel => exact ⟨by go_num, by omega, hrel', hw8, hd8⟩
    case measure => omega
  · obtain rfl : gk = 0 := by omega
    have hRr := (hgr.out.block _ (show w.heap.size < w4.heap.size by omega) (fun e => by cases e; omega)).trans hR4.out
    have hbr := hb24.out.trans ((below_of_grown hgr.out (show w1.heap.size ≤ g by omega) (by omega)).mono (by omega))
    have hfz := hfin.out wr (.slice ua nu ucp) us zss hbr hrowr.out (by omega) ⟨by omega, hz5.out⟩ hst3
    have hset := ae (set3 hRr (.int .i64 r) (.int .i64 s) (.slice x n c)); obtain ⟨y0, y1, y2⟩ := ah hRr; have f2 := fun j => frozen_of_row wr w.heap.size j _ _ hRr
    simp at y0 y1 y2
    replace hfz := ae hfz; replace hRr := ae hRr; replace hbr := ae hbr; replace hst3 := ae hst3; replace hst := ae hst; go_wp2
    (try simp only [Exit.inBlock, Exit.then])
    refine DJ (cs := #[.int .i64 r, .int .i64 s, .slice x n c]) rfl (g := w.heap.size) rfl rfl (by exact hset.out) Tryz.underlying26 aB ?_
    exact hfz.out
end Go.Proofs.YtgnomlcjikfdhaaGreat
namespace Go.Proofs.YtgnomlcjikfdhaaGreat
open Go.RowKit
set_option linter.unusedVariables false
theorem MK (w : World) (a : Option Addr) (len cap : Nat) (h : len ≤ 1048576) :
 Calls Tryz.prog 5 #[.slice a len cap] w fun e w' => e = .returned (.bool false) ∧ w = w' := by
 have h2 : decide (1048576 < (len : Int)) = false := by simp; omega
 go_enter Tryz.func5, Tryz.ntmps5
 go_wp2; go_ret; exact ⟨rfl, rfl⟩
theorem LH (w : World) (a : Option Addr) (len cap : Nat) (h : 1048576 < len) :
 Calls Tryz.prog 5 #[.slice a len cap] w fun e w' => e = .returned (.bool true) ∧ w = w' := by
 have h2 : decide (1048576 < (len : Int)) = true := by simp; omega
 go_enter Tryz.func5, Tryz.ntmps5
 go_wp2; go_ret; exact ⟨rfl, rfl⟩
end Go.Proofs.YtgnomlcjikfdhaaGreat
namespace Go.Proofs.YtgnomlcjikfdhaaGreat
open Go.RowKit
set_option linter.unusedVariables false
theorem Lt {k : IntKind} {w : World} {a : Option Addr} {len cap : Nat} {zs : List Int} (h : pO k w a len cap zs) : len ≤ cap := by
 rcases h with ⟨_, h0, h1, _⟩ | ⟨x, _, hlc, _⟩
 · omega
 · exact hlc
end Go.Proofs.YtgnomlcjikfdhaaGreat
namespace Go.Proofs.YtgnomlcjikfdhaaGreat
open Go.RowKit
set_option linter.unusedVariables false
set_option linter.unusedSimpArgs false
structure vP (W : World) (Y : Nat) (r s : Int) (v : Value) (es : List Ed) : Prop where
 X : W.heap[Y]? = some (.cells #[.int .i64 r, .int .i64 s, v] 26 (0, 0))
 rd : ay W.heap.size W v es
variable {W W' : World} {Y : Nat} {r s : Int} {v : Value} {es : List Ed} {P : World → Prop}
theorem vP.lt (h : vP W Y r s v es) : Y < W.heap.size := (Array.getElem?_eq_some_iff.1 h.X).1
theorem vP.adv (h : vP W Y r s v es) (hb : Below W.heap.size W W') : vP W' Y r s v es := ⟨(hb.block _ h.lt).trans h.X, (h.rd.below hb).mono hb.size⟩
theorem vP.c (h : vP W Y r s v es) : W.cell? ⟨Y, 0, none⟩ = some (.int .i64 r) ∧ W.cell? ⟨Y, 1, none⟩ = some (.int .i64 s) ∧ W.cell? ⟨Y, 2, none⟩ = some v := by
 obtain ⟨c0, c1, c2⟩ := ah h.X; simp at c0 c1 c2
 exact ⟨c0, c1, c2⟩
def St (P : World → Prop) (W : World) : Prop := P W ∧ ∀ V V' : World, P V → Below V.heap.size V V' → P V'
theorem St.adv (h : St P W) (hb : Below W.heap.size W W') : St P W' := ⟨h.2 _ _ h.1 hb, h.2⟩
theorem St.box (h : St P W) (hq : vP W Y r s v es) : St (fun W => vP W Y r s v es ∧ P W) W :=
 ⟨⟨hq, h.1⟩, fun _ _ a hb => ⟨a.1.adv hb, h.2 _ _ a.2 hb⟩⟩
theorem St.int {zs : List Int} (h : St P W) (hq : bD W.heap.size W v zs) : St (fun W => bD W.heap.size W v zs ∧ P W) W :=
 ⟨⟨hq, h.1⟩, fun _ _ a hb => ⟨(a.1.below hb).mono hb.size, h.2 _ _ a.2 hb⟩⟩
theorem St.beg {w : World} {a : Option Addr} {len : Nat} (h : eF w.heap.size w a len) : St (fun W => eF W.heap.size W a len ∧ Below w.heap.size w W) w :=
 ⟨⟨h, Below.refl _ _⟩, fun _ _ x hb => ⟨⟨(x.1.below hb).1, (x.1.below hb).2.imp id (fun ⟨b, off, ha, hb', hc⟩ => ⟨b, off, ha, Nat.lt_of_lt_of_le hb' hb.size, hc⟩)⟩, x.2.trans (hb.mono x.2.size)⟩⟩
theorem lL {n : World} {a : Option Addr} {k c : Nat} {r s : Int} {es : List Ed} (hrow : jl 3 n.heap.size n (.slice a k c) k (aC es)) (hk : k = es.length) :
 ∃ (x y : World) (Y : Nat), Hid (n.alloc (.cells #[.int .i64 0, .int .i64 0, .slice none 0 0] 26) = x) ∧ Hid (n.heap.size = Y)
  ∧ Hid (((x.setCell ⟨Y, 0, none⟩ (.int .i64 r)).setCell ⟨Y, 1, none⟩ (.int .i64 s)).setCell ⟨Y, 2, none⟩ (.slice a k c) = y)
  ∧ x.cell? ⟨Y, 0, none⟩ = some (.int .i64 0) ∧ x.cell? ⟨Y, 1, none⟩ = some (.int .i64 0) ∧ x.cell? ⟨Y, 2, none⟩ = some (.slice none 0 0)
  ∧ (∀ j, x.frozen? ⟨Y, j, none⟩ = false) ∧ vP y Y r s (.slice a k c) es ∧ Below n.heap.size n y := by
 obtain ⟨x, hx⟩ := ag (n.alloc (.cells #[.int .i64 0, .int .i64 0, .slice none 0 0] 26)); have hX0 : x.heap[n.heap.size]? = some (.cells #[.int .i64 0, .int .i64 0, .slice none 0 0] 26 (0, 0)) := by rw [hx]; exact heap_alloc_new _ _
 have hbA : Below n.heap.size n x := by rw [hx]; exact (Below.refl _ _).alloc (nl _) _
 have hX := set3 hX0 (.int .i64 r) (.int .i64 s) (.slice a k c); have hb := aN (x0 := .int .i64 r) (x1 := .int .i64 s) (x2 := .slice a k c) hbA (nl n.heap.size); obtain ⟨t0, t1, t2⟩ := ah hX0; simp at t0 t1 t2
 refine ⟨x, _, n.heap.size, ae hx.symm, ae rfl, ae rfl, t0, t1, t2, fun j => frozen_of_row x _ j _ _ hX0, ⟨hX, ?_⟩, hb⟩
 have h := (hrow.below hb).mono hb.size; unfold ay; rw [← hk]; exact h
end Go.Proofs.YtgnomlcjikfdhaaGreat
namespace Go.Proofs.YtgnomlcjikfdhaaGreat
open Go.RowKit
set_option linter.unusedVariables false
set_option linter.unusedSimpArgs false
section
variable {W : World} {v : Value} {P : World → Prop}
theorem St.wds {zss : List (List Int)} (h : St P W) (hq : dJ W.heap.size W v zss) : St (fun W => dJ W.heap.size W v zss ∧ P W) W :=
 ⟨⟨hq, h.1⟩, fun _ _ a hb => ⟨(a.1.below hb).mono hb.size, h.2 _ _ a.2 hb⟩⟩
theorem St.cel {b j : Nat} (h : St P W) (hq : W.cell? ⟨b, j, none⟩ = some v ∧ b < W.heap.size) : St (fun W => (W.cell? ⟨b, j, none⟩ = some v ∧ b < W.heap.size) ∧ P W) W :=
 ⟨⟨hq, h.1⟩, fun _ _ a hb => ⟨⟨af a.1.1 hb a.1.2, Nat.lt_of_lt_of_le a.1.2 hb.size⟩, h.2 _ _ a.2 hb⟩⟩
theorem St.blw {W0 : World} (h : St P W) (hq : Below W0.heap.size W0 W) : St (fun W => Below W0.heap.size W0 W ∧ P W) W :=
 ⟨⟨hq, h.1⟩, fun _ _ a hb => ⟨a.1.trans (hb.mono a.1.size), h.2 _ _ a.2 hb⟩⟩
end
theorem Gf {m : Nat} : ∀ {zss : List (List Int)}, (∀ z ∈ zss, z.length ≤ m) → dP (zss.map List.length) ≤ m * zss.length := by
 intro zss
 induction zss with
 | nil => intro _; exact Nat.zero_le _
 | cons z t ih =>
  intro h; have h1 := h z List.mem_cons_self; have h2 := ih (fun x hx => h x (List.mem_cons_of_mem _ hx))
  rw [List.map_cons, List.length_cons, Nat.mul_succ]; show z.length + dP (t.map List.length) ≤ _
  omega
theorem IJ {z : Int} (h : gG z = true) : ql (dY z) (fJ z) [] = true := by
 have h1 : 1 ≤ z ∧ z ≤ 3 := of_decide_eq_true h; rw [yw]; unfold dY fJ; rw [if_pos h1, if_pos h1]; simp
 exact h1
theorem Hz {z : Int} (h : gG z = true) : oW (dY z) (fJ z) (lQ z) = true := by
 have h1 : 1 ≤ z ∧ z ≤ 3 := of_decide_eq_true h; rw [DU]; unfold dY fJ lQ; rw [if_pos h1, if_pos h1]; simp
 exact h1
theorem MO (z : Int) : (0 ≤ dY z ∧ dY z ≤ 3) ∧ (0 ≤ fJ z ∧ fJ z ≤ 1) := by
 unfold dY fJ; split <;> omega
end Go.Proofs.YtgnomlcjikfdhaaGreat
