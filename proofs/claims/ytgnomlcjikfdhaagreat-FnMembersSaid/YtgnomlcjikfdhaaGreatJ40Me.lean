import Derived.Deep.Cut
import Derived.Deep.LoopGhost
import Derived.Test.YtgnomlcjikfdhaaGreatJ35Me
import Derived.Test.YtgnomlcjikfdhaaGreatJ37Me
import Derived.Test.YtgnomlcjikfdhaaGreatJ39Me
import Derived.Test.YtgnomlcjikfdhaaGreatJ12Me
namespace Go.Proofs.YtgnomlcjikfdhaaGreat
open Go.RowKit
set_option linter.unusedVariables false
set_option linter.unusedSimpArgs false
def jA (B g : Nat) (a : Option Addr) (len cap : Nat) (w : World) (e : Ending) (w' : World) : Prop :=
 ∃ v zs, (bi zs ∧ zs.length ≤ 6) ∧ e = .returned v ∧ bg w' w.heap.size w'.heap.size v zs ∧ w.grownBy w' (some g) ∧ Dr B g a len cap w'
set_option maxHeartbeats 12800000 in
set_option maxRecDepth 100000 in
theorem Bf {B g : Nat} {a : Option Addr} {len cap : Nat} {w : World} (h : Dr B g a len cap w) (r s : Int) (x : Option Addr) (n c : Nat) (es : List Ed) (hn : n = es.length) (lo hi : Nat) (hrow : aF 36 3 w lo hi (.slice x n c) n (aC es)) (hlo : g < lo) (hhi : hi ≤ w.heap.size) (hP : nM r s es) :
 Calls Tryz.prog 66 #[.pointer (some ⟨g, 0, none⟩), .agg #[.int .i64 r, .int .i64 s, .slice x n c]] w (jA B g a len cap w) := by
 have hlt := h.lt; obtain ⟨hPr, hPs, hPe⟩ := hP; obtain ⟨w1, hw1⟩ := ag (w.alloc (.cells #[.int .i64 r, .int .i64 s, .slice x n c] 26)); have hd1 := h.alloc (.cells #[.int .i64 r, .int .i64 s, .slice x n c] 26); have hk1 := heap_alloc_new w (.cells #[.int .i64 r, .int .i64 s, .slice x n c] 26); rw [← hw1] at hd1 hk1; have hs1 : w1.heap.size = w.heap.size + 1 := by rw [hw1]; simp
 have hg1 : w.grownBy w1 (some g) := by rw [hw1]; exact World.grownBy_alloc w _ (some g)
 have hrow1 : aF 36 3 w1 lo hi (.slice x n c) n (aC es) := hrow.keep (fun k h1 h2 => by rw [hw1]; exact heap_alloc_old w _ (by omega))
 have hon := uM hd1 2 2 rfl (by omega) (by omega)
 obtain ⟨Bc, hBc⟩ := ag (dL r s es); have hww := ae hw1.symm; obtain ⟨c0, c1, c2⟩ := ah hk1; simp at c0 c1 c2
 replace hw1 := ae hw1; replace hk1 := ae hk1; replace hd1 := ae hd1; replace hg1 := ae hg1; replace hrow := ae hrow; replace hrow1 := ae hrow1; replace hBc := ae hBc; replace hn := ae hn; replace h := ae h; have hs1b : w.heap.size < w1.heap.size := by omega
 replace hs1 := ae hs1; go_enter Tryz.func66, Tryz.ntmps66
 go_wp2_with fail; rw [hww.out]; refine hon.mono ?_; rintro e w2 ⟨k, rfl, hg2, hd2⟩; clear hon c0 c1 c2; have hsz2 := hg2.size; have hk2 := (bC hg2 (by have := hs1.out; omega) (by omega)).trans hk1.out
 obtain ⟨c0, c1, c2⟩ := ah hk2; simp at c0 c1 c2
 have hg02 := ae (aj hg1.out hg2); have hrow2 : Hid (aF 36 3 w2 lo hi (.slice x n c) n (aC es)) := ae (hrow1.out.keep (fun k h1 h2 => hg2.block k (by have := hs1.out; omega) (fun e => by cases e; omega)))
 replace hk2 := ae hk2; replace hg2 := ae hg2; replace hd2 := ae hd2
 cases k with
 | false =>
  have hof := fun (R : Nat) (h1 : 1 ≤ R) (h3 : R ≤ 3) => zZ hd2.out R h1 h3 6 6 rfl (by omega)
  have hr6 : r = -1 ∨ r = 0 ∨ r = 1 ∨ r = 2 ∨ r = 3 ∨ r = 4 := by omega
  rcases hr6 with rfl | rfl | rfl | rfl | rfl | rfl
  · replace hof := hof 1 (by omega) (by omega)
    go_wp2_with fail; refine hof.mono ?_; rintro e wz ⟨v, zs, hz, rfl, hown, hgz, hdz⟩; have hfz : jA B g a len cap w (.returned v) wz := ⟨v, zs, ⟨hz.1.inR (by omega), hz.2.2⟩, rfl, (ak.row hown (by have := hz.2.2; omega)).wide (by have := hg02.out.size; omega) (nl _), aj hg02.out hgz, hdz⟩
    replace hfz := ae hfz; clear hz hown hgz hdz hof; go_wp2; go_ret; exact hfz.out
  · replace hof := hof 1 (by omega) (by omega)
    go_wp2_with fail; refine hof.mono ?_; rintro e wz ⟨v, zs, hz, rfl, hown, hgz, hdz⟩; have hfz : jA B g a len cap w (.returned v) wz := ⟨v, zs, ⟨hz.1.inR (by omega), hz.2.2⟩, rfl, (ak.row hown (by have := hz.2.2; omega)).wide (by have := hg02.out.size; omega) (nl _), aj hg02.out hgz, hdz⟩
    replace hfz := ae hfz; clear hz hown hgz hdz hof; go_wp2; go_ret; exact hfz.out
  · replace hof := hof 1 (by omega) (by omega)
    go_wp2_with fail; refine hof.mono ?_; rintro e wz ⟨v, zs, hz, rfl, hown, hgz, hdz⟩; have hfz : jA B g a len cap w (.returned v) wz := ⟨v, zs, ⟨hz.1.inR (by omega), hz.2.2⟩, rfl, (ak.row hown (by have := hz.2.2; omega)).wide (by have := hg02.out.size; omega) (nl _), aj hg02.out hgz, hdz⟩
    replace hfz := ae hfz; clear hz hown hgz hdz hof; go_wp2; go_ret; exact hfz.out
  · replace hof := hof 2 (by omega) (by omega)
    go_wp2_with fail; refine hof.mono ?_; rintro e wz ⟨v, zs, hz, rfl, hown, hgz, hdz⟩; have hfz : jA B g a len cap w (.returned v) wz := ⟨v, zs, ⟨hz.1.inR (by omega), hz.2.2⟩, rfl, (ak.row hown (by have := hz.2.2; omega)).wide (by have := hg02.out.size; omega) (nl _), aj hg02.out hgz, hdz⟩
    replace hfz := ae hfz; clear hz hown hgz hdz hof; go_wp2; go_ret; exact hfz.out
  · replace hof := hof 3 (by omega) (by omega)
    go_wp2_with fail; refine hof.mono ?_; rintro e wz ⟨v, zs, hz, rfl, hown, hgz, hdz⟩; have hfz : jA B g a len cap w (.returned v) wz := ⟨v, zs, ⟨hz.1.inR (by omega), hz.2.2⟩, rfl, (ak.row hown (by have := hz.2.2; omega)).wide (by have := hg02.out.size; omega) (nl _), aj hg02.out hgz, hdz⟩
    replace hfz := ae hfz; clear hz hown hgz hdz hof; go_wp2; go_ret; exact hfz.out
  · replace hof := hof 3 (by omega) (by omega)
    go_wp2_with fail; refine hof.mono ?_; rintro e wz ⟨v, zs, hz, rfl, hown, hgz, hdz⟩; have hfz : jA B g a len cap w (.returned v) wz := ⟨v, zs, ⟨hz.1.inR (by omega), hz.2.2⟩, rfl, (ak.row hown (by have := hz.2.2; omega)).wide (by have := hg02.out.size; omega) (nl _), aj hg02.out hgz, hdz⟩
    replace hfz := ae hfz; clear hz hown hgz hdz hof; go_wp2; go_ret; exact hfz.out
 | true =>
  have hrd2 := ((hrow2.out.read).mono (by omega : hi ≤ w2.heap.size))
  have hco := jX w2 r s (.slice x n c) es (by unfold ay; rw [← hn.out]; exact hrd2) (by omega) (by omega)
  rw [← hBc.out] at hco; replace hrd2 := ae hrd2; go_wp2_with fail; refine hco.mono ?_; rintro e w3 ⟨rfl, hb3⟩; clear hco; have hsz3 := hb3.size; have p0 := af c0 hb3 (by have := hs1.out; omega)
  have p1 := af c1 hb3 (by have := hs1.out; omega)
  have p2 := af c2 hb3 (by have := hs1.out; omega)
  have hd3 := ae (hd2.out.over hb3 hd2.out.lt); have hg03 := ae (grown_below hg02.out (hb3.mono (by omega)))
  have hrow3 : Hid (aF 36 3 w3 lo hi (.slice x n c) n (aC es)) := ae (hrow2.out.keep (fun k h1 h2 => hb3.block k (by omega)))
  clear c0 c1 c2; replace hb3 := ae hb3
  cases Bc with
  | false =>
   replace hBc := ae hBc; have hof := fun (R : Nat) (h1 : 1 ≤ R) (h3 : R ≤ 3) => zZ hd3.out R h1 h3 6 6 rfl (by omega)
   have hr6 : r = -1 ∨ r = 0 ∨ r = 1 ∨ r = 2 ∨ r = 3 ∨ r = 4 := by omega
   rcases hr6 with rfl | rfl | rfl | rfl | rfl | rfl
   · replace hof := hof 1 (by omega) (by omega)
     go_wp2_with fail; refine hof.mono ?_; rintro e wz ⟨v, zs, hz, rfl, hown, hgz, hdz⟩; have hfz : jA B g a len cap w (.returned v) wz := ⟨v, zs, ⟨hz.1.inR (by omega), hz.2.2⟩, rfl, (ak.row hown (by have := hz.2.2; omega)).wide (by have := hg03.out.size; omega) (nl _), aj hg03.out hgz, hdz⟩
     replace hfz := ae hfz; clear hz hown hgz hdz hof; go_wp2; go_ret; exact hfz.out
   · replace hof := hof 1 (by omega) (by omega)
     go_wp2_with fail; refine hof.mono ?_; rintro e wz ⟨v, zs, hz, rfl, hown, hgz, hdz⟩; have hfz : jA B g a len cap w (.returned v) wz := ⟨v, zs, ⟨hz.1.inR (by omega), hz.2.2⟩, rfl, (ak.row hown (by have := hz.2.2; omega)).wide (by have := hg03.out.size; omega) (nl _), aj hg03.out hgz, hdz⟩
     replace hfz := ae hfz; clear hz hown hgz hdz hof; go_wp2; go_ret; exact hfz.out
   · replace hof := hof 1 (by omega) (by omega)
     go_wp2_with fail; refine hof.mono ?_; rintro e wz ⟨v, zs, hz, rfl, hown, hgz, hdz⟩; have hfz : jA B g a len cap w (.returned v) wz := ⟨v, zs, ⟨hz.1.inR (by omega), hz.2.2⟩, rfl, (ak.row hown (by have := hz.2.2; omega)).wide (by have := hg03.out.size; omega) (nl _), aj hg03.out hgz, hdz⟩
     replace hfz := ae hfz; clear hz hown hgz hdz hof; go_wp2; go_ret; exact hfz.out
   · replace hof := hof 2 (by omega) (by omega)
     go_wp2_with fail; refine hof.mono ?_; rintro e wz ⟨v, zs, hz, rfl, hown, hgz, hdz⟩; have hfz : jA B g a len cap w (.returned v) wz := ⟨v, zs, ⟨hz.1.inR (by omega), hz.2.2⟩, rfl, (ak.row hown (by have := hz.2.2; omega)).wide (by have := hg03.out.size; omega) (nl _), aj hg03.out hgz, hdz⟩
     replace hfz := ae hfz; clear hz hown hgz hdz hof; go_wp2; go_ret; exact hfz.out
   · replace hof := hof 3 (by omega) (by omega)
     go_wp2_with fail; refine hof.mono ?_; rintro e wz ⟨v, zs, hz, rfl, hown, hgz, hdz⟩; have hfz : jA B g a len cap w (.returned v) wz := ⟨v, zs, ⟨hz.1.inR (by omega), hz.2.2⟩, rfl, (ak.row hown (by have := hz.2.2; omega)).wide (by have := hg03.out.size; omega) (nl _), aj hg03.out hgz, hdz⟩
     replace hfz := ae hfz; clear hz hown hgz hdz hof; go_wp2; go_ret; exact hfz.out
   · replace hof := hof 3 (by omega) (by omega)
     go_wp2_with fail; refine hof.mono ?_; rintro e wz ⟨v, zs, hz, rfl, hown, hgz, hdz⟩; have hfz : jA B g a len cap w (.returned v) wz := ⟨v, zs, ⟨hz.1.inR (by omega), hz.2.2⟩, rfl, (ak.row hown (by have := hz.2.2; omega)).wide (by have := hg03.out.size; omega) (nl _), aj hg03.out hgz, hdz⟩
     replace hfz := ae hfz; clear hz hown hgz hdz hof; go_wp2; go_ret; exact hfz.out
  | true =>
   have hlws := fun z hz => JX (r := r) (s := s) (es := es) hBc.out.symm (z := z) hz
   have hbig := (Ag r s es 0 3).1; replace hBc := ae hBc; have hlc := zy w3 r s (.slice x n c) es 0 3 (by have := ((hrow3.out.read).mono (by omega : hi ≤ w3.heap.size)); unfold ay; rw [← hn.out]; exact this) (by omega) (by omega)
   obtain ⟨L, hL⟩ := ag (kY r s es 0 3); rw [← hL] at hlc hlws hbig; obtain ⟨m, hm⟩ := ag L.length; rw [← hm] at hbig; replace hlws := ae hlws; go_wp2_with fail; refine hlc.mono ?_; rintro e w4 ⟨v, us, rfl, hrw, hb4⟩; clear hlc; have hsz4 := hb4.size; have q0 := af p0 hb4 (by have := hs1.out; omega)
   have q1 := af p1 hb4 (by have := hs1.out; omega)
   have q2 := af p2 hb4 (by have := hs1.out; omega)
   have hd4 := ae (hd3.out.over hb4 hd3.out.lt); have hg04 := ae (grown_below hg03.out (hb4.mono (by omega)))
   clear p0 p1 p2; replace hb4 := ae hb4; obtain ⟨av, mv, cv, hv, hmv⟩ : ∃ av mv cv, v = .slice av mv cv ∧ mv = m := by
    obtain ⟨_, _, h3, _⟩ := hrw
    rcases h3 with ⟨e1, e2⟩ | ⟨gl, off, cap', cur, e1, _⟩
    · exact ⟨_, _, _, e1, by rw [hm, e2]; rfl⟩
    · exact ⟨_, _, _, e1, hm.symm⟩
   subst hmv; subst hv; replace hL := ae hL; by_cases hm1 : 1 < mv
   · obtain ⟨r1, r2, r3, r4, r5⟩ := hrw
     rcases r3 with ⟨e1, e2⟩ | ⟨bl, off, cap', cur, e1, e2, e3, e4, e5, e6, e7⟩
     · exact absurd hm1 (by rw [hm, e2]; simp)
     rw [← hm] at e1 e6 r4 r2
     cases e1
     have hcell : ∀ i, i < mv → w4.cell? ⟨bl, off + i, none⟩ = some (us.getD i undef) := fun i hi => by
      have := cell_of_heap e5 (off + i); rw [this]; exact e6 i hi
     have hrows : ∀ i, i < mv → bg w4 w3.heap.size w4.heap.size (us.getD i undef) (L.getD i []) := r4; have hinr : ∀ i, i < mv → bi (L.getD i []) ∧ (L.getD i []).length ≤ 3 := fun i hi => by
      have hh := hlws.out (L.getD i []) (by rw [gD, gE (by omega)]; exact List.getElem_mem _)
      exact ⟨hh.1, hh.2.1⟩
     have hgl : g < w3.heap.size := hd3.out.lt; have hbl : bl ≠ g := by omega
     have hbg : g ≠ bl := by omega
     have hbl4 : bl < w4.heap.size := e3; replace hrows := ae hrows; replace hinr := ae hinr; replace hm := ae hm; clear r1 r2 r4 r5 e2 e3 e4 e5 e6 e7; go_upto_region 4 with fail
     obtain ⟨wd, hwd⟩ := ag w4.drew; have hbd : Below w4.heap.size w4 wd := by rw [hwd]; exact bf (Below.refl _ _) 1
     have hszd := hbd.size; have hblw : bl < w4.heap.size := hbl4; have hdd := ae (hd4.out.over hbd hd4.out.lt); have hgd := ae (grown_below hg04.out (hbd.mono (by omega)))
     replace hcell : ∀ i, i < mv → wd.cell? ⟨bl, off + i, none⟩ = some (us.getD i undef) := fun i hi => (hbd.cell (p := (⟨bl, off + i, none⟩ : Addr)) hblw).trans (hcell i hi)
     have hwdw := ae hwd.symm; replace hwd := ae hwd; replace hbd := ae hbd; refine bV (fun _ _ d _ _ h => by cases d <;> exact h) (fun Q' hnorm hpan => ?_)
     refine wp_region_held_drew (S := (fun W0 => ∀ i, i < mv → W0.cell? ⟨bl, off + i, none⟩ = some (us.getD i undef))) (by kernel_rfl) ?_ (fun hHeld => ?_)
     · try dsimp only
       (try rw [hwdw.out]); exact hcell
     refine tk 0 17 ?_; refine tk 1 18 ?_; refine tk 2 19 ?_; refine tk 3 20 ?_; refine tk 7 24 ?_; refine tk 8 25 ?_; refine tk 9 26 ?_; refine tk 10 27 ?_; refine rd 4 (fun K hK => ?_)
     rw [if_pos (by rfl)]
     go_simp; rw [hwdw.out]; refine (dG hdd.out (mv : Int) mv rfl (by omega) (by omega)).mono ?_
     rintro e w5 ⟨y, ⟨ya, yb⟩, rfl, hg5, hd5⟩; obtain ⟨i, rfl⟩ : ∃ i : Nat, y = (i : Int) := ⟨y.toNat, by omega⟩
     have hil : i < mv := by omega
     have hsz5 := hg5.size; replace hcell : ∀ i, i < mv → w5.cell? ⟨bl, off + i, none⟩ = some (us.getD i undef) := fun i hi => (World.cell?_of_block (a := (⟨bl, off + i, none⟩ : Addr)) (bC hg5 (show bl < _ by omega) (show g ≠ bl from hbg))).trans (hcell i hi)
     have hg05 := ae (aj hgd.out hg5); replace hg5 := ae hg5; replace hd5 := ae hd5; refine hK.out _ _ ?_ (fun hHeld => ?_)
     · try dsimp only
       (try rw [hwdw.out]); exact hcell
     clear hK; try simp only [Act.put, aJ, aH, aI]
     refine tk 5 22 ?_; refine tk 6 23 ?_ (v := us.getD i undef) (hy := by exact Or.inl ⟨by rfl, by intro w hSw; have hSi := hSw i hil; go_simp; (try with_reducible rfl)⟩)
     refine rd 11 (fun K hK => ?_)
     rw [if_pos (by rfl)]
     go_simp; refine (dG hd5.out (mv : Int) mv rfl (by omega) (by omega)).mono ?_
     rintro e w6 ⟨y, ⟨yc, yd⟩, rfl, hg6, hd6⟩; obtain ⟨j, rfl⟩ : ∃ j : Nat, y = (j : Int) := ⟨y.toNat, by omega⟩
     have hjl : j < mv := by omega
     have hsz6 := hg6.size; replace hcell : ∀ i, i < mv → w6.cell? ⟨bl, off + i, none⟩ = some (us.getD i undef) := fun i hi => (World.cell?_of_block (a := (⟨bl, off + i, none⟩ : Addr)) (bC hg6 (show bl < _ by omega) (show g ≠ bl from hbg))).trans (hcell i hi)
     have hg06 := ae (aj hg05.out hg6); replace hg6 := ae hg6; replace hd6 := ae hd6; have hk46 : ∀ k, w3.heap.size ≤ k → k < w4.heap.size → w6.heap[k]? = w4.heap[k]? := fun k h1 h2 => (hg6.out.block k (by omega) (fun e => absurd (Option.some.inj e) (by omega))).trans ((hg5.out.block k (by omega) (fun e => absurd (Option.some.inj e) (by omega))).trans (hbd.out.block k h2))
     have hri := ((hrows.out i hil).keep hk46).read; have hrj := ((hrows.out j hjl).keep hk46).read; have hmu := Dk w6 (us.getD i undef) (us.getD j undef) (L.getD i []) (L.getD j []) (hri.mono (by omega)) (hrj.mono (by omega)) (by have := (hinr.out i hil).2; omega) (by have := (hinr.out j hjl).2; omega)
     clear hri hrj; refine hK.out _ _ ?_ (fun hHeld => ?_)
     · try dsimp only
       (try rw [hwdw.out]); exact hcell
     clear hK; try simp only [Act.put, aJ, aH, aI]
     refine tk 12 29 ?_; refine tk 13 30 ?_ (v := us.getD j undef) (hy := by exact Or.inl ⟨by rfl, by intro w hSw; have hSi := hSw j hjl; go_simp; (try with_reducible rfl)⟩)
     refine rd 14 (fun K hK => ?_)
     rw [if_pos (by rfl)]
     go_simp; refine hmu.mono ?_; rintro e w7 ⟨v, rfl, hrz, hb7⟩; clear hmu; have hsz7 := hb7.size; replace hcell : ∀ i, i < mv → w7.cell? ⟨bl, off + i, none⟩ = some (us.getD i undef) := fun i hi => (hb7.cell (p := (⟨bl, off + i, none⟩ : Addr)) (by show bl < _; omega)).trans (hcell i hi)
     have hfz : jA B g a len cap w (.returned v) w7 := ⟨v, _, ⟨yJ (hinr.out i hil).1 (hinr.out j hjl).1, by have := vN (L.getD i []) (L.getD j []); have := (hinr.out i hil).2; have := (hinr.out j hjl).2; omega⟩, rfl, hrz.wide (by have := hg06.out.size; omega) (nl _), grown_below hg06.out (hb7.mono (by have := hg06.out.size; omega)), hd6.out.over hb7 hd6.out.lt⟩
     replace hfz := ae hfz; replace hrz := ae hrz; replace hb7 := ae hb7; refine hK.out _ _ ?_ (fun hHeld => ?_)
     · try dsimp only
       (try rw [hwdw.out]); exact hcell
     clear hK; try simp only [Act.put, aJ, aH, aI]
     refine tk 15 4 ?_; refine wpAnyH_done (by kernel_rfl) ?_ _
     refine hnorm _ _ ?_; clear hnorm hpan; repeat clear hHeld
     try simp only [Exit.then]
     go_wp2; go_ret; exact hfz.out
   · replace hm := ae hm
     have hof := fun (R : Nat) (h1 : 1 ≤ R) (h3 : R ≤ 3) => zZ hd4.out R h1 h3 6 6 rfl (by omega)
     have hr6 : r = -1 ∨ r = 0 ∨ r = 1 ∨ r = 2 ∨ r = 3 ∨ r = 4 := by omega
     rcases hr6 with rfl | rfl | rfl | rfl | rfl | rfl
     · replace hof := hof 1 (by omega) (by omega)
       go_wp2_with fail; refine hof.mono ?_; rintro e wz ⟨v, zs, hz, rfl, hown, hgz, hdz⟩; have hfz : jA B g a len cap w (.returned v) wz := ⟨v, zs, ⟨hz.1.inR (by omega), hz.2.2⟩, rfl, (ak.row hown (by have := hz.2.2; omega)).wide (by have := hg04.out.size; omega) (nl _), aj hg04.out hgz, hdz⟩
       replace hfz := ae hfz; clear hz hown hgz hdz hof; go_wp2; go_ret; exact hfz.out
     · replace hof := hof 1 (by omega) (by omega)
       go_wp2_with fail; refine hof.mono ?_; rintro e wz ⟨v, zs, hz, rfl, hown, hgz, hdz⟩; have hfz : jA B g a len cap w (.returned v) wz := ⟨v, zs, ⟨hz.1.inR (by omega), hz.2.2⟩, rfl, (ak.row hown (by have := hz.2.2; omega)).wide (by have := hg04.out.size; omega) (nl _), aj hg04.out hgz, hdz⟩
       replace hfz := ae hfz; clear hz hown hgz hdz hof; go_wp2; go_ret; exact hfz.out
     · replace hof := hof 1 (by omega) (by omega)
       go_wp2_with fail; refine hof.mono ?_; rintro e wz ⟨v, zs, hz, rfl, hown, hgz, hdz⟩; have hfz : jA B g a len cap w (.returned v) wz := ⟨v, zs, ⟨hz.1.inR (by omega), hz.2.2⟩, rfl, (ak.row hown (by have := hz.2.2; omega)).wide (by have := hg04.out.size; omega) (nl _), aj hg04.out hgz, hdz⟩
       replace hfz := ae hfz; clear hz hown hgz hdz hof; go_wp2; go_ret; exact hfz.out
     · replace hof := hof 2 (by omega) (by omega)
       go_wp2_with fail; refine hof.mono ?_; rintro e wz ⟨v, zs, hz, rfl, hown, hgz, hdz⟩; have hfz : jA B g a len cap w (.returned v) wz := ⟨v, zs, ⟨hz.1.inR (by omega), hz.2.2⟩, rfl, (ak.row hown (by have := hz.2.2; omega)).wide (by have := hg04.out.size; omega) (nl _), aj hg04.out hgz, hdz⟩
       replace hfz := ae hfz; clear hz hown hgz hdz hof; go_wp2; go_ret; exact hfz.out
     · replace hof := hof 3 (by omega) (by omega)
       go_wp2_with fail; refine hof.mono ?_; rintro e wz ⟨v, zs, hz, rfl, hown, hgz, hdz⟩; have hfz : jA B g a len cap w (.returned v) wz := ⟨v, zs, ⟨hz.1.inR (by omega), hz.2.2⟩, rfl, (ak.row hown (by have := hz.2.2; omega)).wide (by have := hg04.out.size; omega) (nl _), aj hg04.out hgz, hdz⟩
       replace hfz := ae hfz; clear hz hown hgz hdz hof; go_wp2; go_ret; exact hfz.out
     · replace hof := hof 3 (by omega) (by omega)
       go_wp2_with fail; refine hof.mono ?_; rintro e wz ⟨v, zs, hz, rfl, hown, hgz, hdz⟩; have hfz : jA B g a len cap w (.returned v) wz := ⟨v, zs, ⟨hz.1.inR (by omega), hz.2.2⟩, rfl, (ak.row hown (by have := hz.2.2; omega)).wide (by have := hg04.out.size; omega) (nl _), aj hg04.out hgz, hdz⟩
       replace hfz := ae hfz; clear hz hown hgz hdz hof; go_wp2; go_ret; exact hfz.out
end Go.Proofs.YtgnomlcjikfdhaaGreat
