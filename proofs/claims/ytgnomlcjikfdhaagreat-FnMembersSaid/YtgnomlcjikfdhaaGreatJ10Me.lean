import Derived.Maps.AppendAt
import Derived.Deep.Cut
import Derived.Deep.RegionHeld3
import Derived.Test.YtgnomlcjikfdhaaGreatJ8Me
import Derived.Test.YtgnomlcjikfdhaaGreatJ2Me
import Derived.Test.YtgnomlcjikfdhaaGreatJ9Me
namespace Go.Proofs.YtgnomlcjikfdhaaGreat
open Go.RowKit
set_option linter.unusedVariables false
set_option linter.unusedSimpArgs false
theorem lF {w0 : World} {o : Oper} {a : Act} {K : Act → World → Prop} {Q : Exit → Act → World → Prop} (s x : Operand)
 (ho : o.op = .call { callee := .builtin .append, args := #[s, x], argTypes := #[24, 24] }) (base : Nat) (v vx : Value) (es fs : List Ed) (B : Nat)
 (hs : a.eval s = v) (hx : a.eval x = vx) (hown : bF w0 base v es) (hread : ay B w0 vx fs) (hl : es.length + fs.length ≤ 1000000000) (hbase : base ≤ w0.heap.size) (hne : fs ≠ [])
 (h : ∀ v' w', bF w' base v' (es ++ fs) → w0.grownBy w' v.ownBlock → (v'.ownBlock = v.ownBlock ∨ v'.ownBlock = some w0.heap.size) → K (a.put o.dst v') w') :
 Oper.wp Tryz.prog o a w0 K Q := by
 obtain ⟨i0, hi, hz0, hz1, hz2⟩ := info_parts oN; obtain ⟨hzl, _, ax, cap, rfl, ⟨hnil, _⟩, hr⟩ := hread
 rcases hr with h0 | ⟨b, off, ha, hB, hc⟩
 · exact absurd (List.eq_nil_of_length_eq_zero h0) hne
 subst ha; obtain ⟨v', w', hrun, h2, h3, h4, h5⟩ := run_append_own_at (P := Tryz.prog) w0 base 24 o.type 36 i0 _ 3 24 Tryz.underlying24 hi hz0 hz1 hz2 rfl (by decide) v es.length ((aC es).map iv) hown ⟨b, off, none⟩ fs.length cap ((aC fs).map iv) (by simpa using hzl) (by
  intro j u hj; rw [List.getElem?_map] at hj; obtain ⟨y, hy, rfl⟩ := Option.map_eq_some_iff.1 hj; have hjl : j < (aC fs).length := (List.getElem?_eq_some_iff.1 hy).1; have hcj := hc j (by omega)
  rw [gD, hy] at hcj; rw [iy]; simpa [iv] using hcj) (by
  intro u hu; obtain ⟨y, _, rfl⟩ := List.mem_map.1 hu; rfl) (by unfold maxLen; omega) (by omega) hbase
 unfold Oper.wp execOp; simp only [ho, resolve, invoke, builtin, Sem.run_bind, Sem.run_pure, Result.andThen_ok, List.map_toArray, List.map_cons, List.map_nil, hs, hx, hrun]; exact h v' w' (by unfold bF bG; rw [jo, List.length_append, List.map_append]; exact h2) h3 h5
def nM (r s : Int) (es : List Ed) : Prop := (-1 ≤ r ∧ r ≤ 4) ∧ (-1 ≤ s ∧ s ≤ 41) ∧ es.length ≤ 100
theorem fG {w w' : World} {base : Nat} {v : Value} {es : List Ed} (h : bF w base v es) (hb : ∀ k, v.ownBlock = some k → w'.heap[k]? = w.heap[k]?) : bF w' base v es := by
 obtain ⟨h1, h2 | ⟨g, cap, cur, rfl, hg, hh, hr⟩⟩ := h
 · exact ⟨h1, .inl h2⟩
 · exact ⟨h1, .inr ⟨g, cap, cur, rfl, hg, (hb g rfl).trans hh, hr⟩⟩
theorem su {w w' : World} {b g : Nat} {x0 x1 x2 : Value} (h : w.grownBy w' (some g)) (hb : w.heap.size ≤ b) : w.grownBy (((w'.setCell ⟨b, 0, none⟩ x0).setCell ⟨b, 1, none⟩ x1).setCell ⟨b, 2, none⟩ x2) (some g) :=
 grown_below h (aN (Below.refl _ _) hb)
set_option maxHeartbeats 12800000 in
set_option maxRecDepth 100000 in
theorem J8 {B g : Nat} {a : Option Addr} {len cap : Nat} {w : World} (h : Dr B g a len cap w) :
 Calls Tryz.prog 79 #[.pointer (some ⟨g, 0, none⟩)] w (ug nM B g a len cap w) := by
 have hlt := h.lt; obtain ⟨w1, hw1⟩ := ag (w.alloc (.cells #[.int .i64 0, .int .i64 0, .slice none 0 0] 26)); have hd1 := h.alloc (.cells #[.int .i64 0, .int .i64 0, .slice none 0 0] 26); have hk1 := heap_alloc_new w (.cells #[.int .i64 0, .int .i64 0, .slice none 0 0] 26); rw [← hw1] at hd1 hk1; have hs1 : w1.heap.size = w.heap.size + 1 := by rw [hw1]; simp
 have hg1 : w.grownBy w1 (some g) := by rw [hw1]; exact World.grownBy_alloc w _ (some g)
 have hgr := IL hd1; have hww := ae hw1.symm; have fin : ∀ (W : World) (r' s' : Int) (av : Option Addr) (m c : Nat) (es' : List Ed), m = es'.length → nM r' s' es' → bF W w1.heap.size (.slice av m c) es' → w.grownBy W (some g) → Dr B g a len cap W →
  ug nM B g a len cap w (.returned (.agg #[.int .i64 r', .int .i64 s', .slice av m c])) (((W.setCell ⟨w.heap.size, 0, none⟩ (.int .i64 r')).setCell ⟨w.heap.size, 1, none⟩ (.int .i64 s')).setCell ⟨w.heap.size, 2, none⟩ (.slice av m c)) := by
  intro W r' s' av m c es' hm hP ho hgW hdW; subst hm; have ho2 : bF (((W.setCell ⟨w.heap.size, 0, none⟩ (.int .i64 r')).setCell ⟨w.heap.size, 1, none⟩ (.int .i64 s')).setCell ⟨w.heap.size, 2, none⟩ (.slice av es'.length c)) w1.heap.size (.slice av es'.length c) es' := fG ho (fun k hk => dS (by have := (World.ownsRow.lt ho k hk).1; omega))
  refine ⟨r', s', av, c, es', hP, rfl, (bG.row ho2 (by have := hP.2.2; omega)).wide (by omega) (nl _), su hgW (nl _), hdW.over (aN (Below.refl w.heap.size W) (nl _)) hlt⟩
 replace fin := ae fin; replace hw1 := ae hw1; replace hk1 := ae hk1; replace hd1 := ae hd1; go_enter Tryz.func79, Tryz.ntmps79
 go_upto_region 1 with fail
 rw [hww.out]; go_wp2_with fail; refine hgr.mono ?_; rintro e w2 ⟨r, s, x, c, es, ⟨hr1, hr3, hs1a, hs5a, hisg, hl8⟩, rfl, hrow2, hg2, hd2⟩; clear hgr; have hsz2 := hg2.size; obtain ⟨n, hm⟩ := ag es.length; rw [← hm] at hrow2 hl8 ⊢; have ho2 : bF w2 w1.heap.size (.slice x n c) es := by rw [hm] at hrow2 ⊢; exact hrow2.owns
 obtain ⟨X, hX⟩ := ag w2.heap.size; have hoX : ∀ k, Value.ownBlock (.slice x n c) = some k → k < X := fun k hk => by rw [hX]; exact (World.ownsRow.lt ho2 k hk).2
 have hgX : g < X := by omega
 have hgR : g < w.heap.size := hlt; have hRX : w.heap.size < X := by omega
 have hR2 := (bC hg2 (by omega) (by omega)).trans hk1.out
 obtain ⟨w3, hw3⟩ := ag (w2.alloc (.cells #[.int .i64 0, .int .i64 0, .slice none 0 0] 26)); have hX3 : w3.heap[X]? = some (.cells #[.int .i64 0, .int .i64 0, .slice none 0 0] 26 (0, 0)) := by rw [hw3, hX]; exact heap_alloc_new _ _
 have hb3 : Below w2.heap.size w2 w3 := by rw [hw3]; exact (Below.refl _ _).alloc (nl _) _
 obtain ⟨w4, hw4⟩ := ag (((w3.setCell ⟨X, 0, none⟩ (.int .i64 r)).setCell ⟨X, 1, none⟩ (.int .i64 s)).setCell ⟨X, 2, none⟩ (.slice x n c)); have hX4 : w4.heap[X]? = some (.cells #[.int .i64 r, .int .i64 s, .slice x n c] 26 (0, 0)) := by rw [hw4]; exact set3 hX3 _ _ _
 have hb4 : Below X w2 w4 := by rw [hw4, hX]; exact aN hb3 (nl _)
 have hs4 : X < w4.heap.size := (Array.getElem?_eq_some_iff.1 hX4).1; have hR4 := ae ((hb4.block _ (by omega)).trans hR2)
 have ho4 := ae (fG ho2 (fun k hk => hb4.block k (hoX k hk)))
 have hg4 := ae (grown_below (aj hg1 hg2) (hb4.mono (by omega)))
 have hd4 := hd2.over hb4 hgX; obtain ⟨t0, t1, t2⟩ := ah hX3; have ft := fun j => frozen_of_row w3 X j _ _ hX3
 simp at t0 t1 t2
 have hbl := dG hd4 14 14 rfl (by omega) (by omega)
 have hw3w := ae hw3.symm; have hw4w := ae hw4.symm; have hXw := ae hX.symm; replace hw3 := ae hw3; replace hw4 := ae hw4; replace hX := ae hX; replace hX3 := ae hX3; replace hX4 := ae hX4; replace hm := ae hm; replace hrow2 := ae hrow2; replace ho2 := ae ho2; replace hR2 := ae hR2; replace hd2 := ae hd2; replace hg2 := ae hg2; replace hb3 := ae hb3; replace hb4 := ae hb4; replace hd4 := ae hd4; replace hisg := ae hisg
 go_upto_region 2 with (first | rw [hw3w.out] | rw [hXw.out] | fail)
 try rw [hXw.out]
 rw [hw4w.out]; clear t0 t1 t2 ft; go_wp2_with fail; refine hbl.mono ?_; rintro e w5 ⟨k, ⟨ka, kb⟩, rfl, hg5, hd5⟩; clear hbl; have hsz5 := hg5.size; have hX5 := ae ((bC hg5 (by omega) (by omega)).trans hX4.out)
 have hR5 := ae ((bC hg5 (by omega) (by omega)).trans hR4.out)
 have ho5 : Hid (bF w5 w1.heap.size (.slice x n c) es) := ae (fG ho4.out (fun k hk => hg5.block k (by have := hoX k hk; omega) (fun e => by cases e; have := (World.ownsRow.lt ho4.out g hk).1; omega)))
 replace hg5 := ae (aj hg4.out hg5); replace hd5 := ae hd5; by_cases k0 : k = 0
 · subst k0
   have hpk := uS (fun z => -1 ≤ z ∧ z ≤ 41) (hd5.out.alloc (.cells #[.int .i64 (-1), .int .i64 0, .int .i64 1, .int .i64 41] 3)) w5.heap.size 4 (by omega) (by omega) (by have := hd5.out.lt; omega) (pI _ w5 [-1, 0, 1, 41] _ rfl (by decide))
   have hg5p := ae (aj hg5.out (World.grownBy_alloc w5 (.cells #[.int .i64 (-1), .int .i64 0, .int .i64 1, .int .i64 41] 3) (some g))); have hX5p : Hid ((w5.alloc (.cells #[.int .i64 (-1), .int .i64 0, .int .i64 1, .int .i64 41] 3)).heap[X]? = _) := ae ((heap_alloc_old w5 _ (by omega)).trans hX5.out)
   have hR5p : Hid ((w5.alloc (.cells #[.int .i64 (-1), .int .i64 0, .int .i64 1, .int .i64 41] 3)).heap[w.heap.size]? = _) := ae ((heap_alloc_old w5 _ (by omega)).trans hR5.out)
   have ho5p : Hid (bF (w5.alloc (.cells #[.int .i64 (-1), .int .i64 0, .int .i64 1, .int .i64 41] 3)) w1.heap.size (.slice x n c) es) := ae (World.ownsRow.alloc ho5.out _); have hs5p : w5.heap.size < (w5.alloc (.cells #[.int .i64 (-1), .int .i64 0, .int .i64 1, .int .i64 41] 3)).heap.size := by simp
   replace hs5p := ae hs5p; go_wp2_with fail; refine hpk.mono ?_; rintro e w6 ⟨z, ⟨z1, z2⟩, rfl, hg6, hd6⟩; clear hpk; have hX6 := (bC hg6 (by have := hs5p.out; omega) (by have := hgX; omega)).trans hX5p.out
   have hR6 := (bC hg6 (by have := hs5p.out; omega) (by have := hgR; omega)).trans hR5p.out
   have ho6 : bF w6 w1.heap.size (.slice x n c) es := fG ho5p.out (fun k hk => hg6.block k (by have := (World.ownsRow.lt ho5p.out k hk).2; exact this) (fun e => by cases e; have := (World.ownsRow.lt ho5p.out g hk).1; omega))
   have hgw6 := aj hg5p.out hg6; obtain ⟨w7, hw7⟩ := ag (w6.setCell ⟨X, 1, none⟩ (.int .i64 z)); have hXz : w7.heap[X]? = some (.cells #[.int .i64 r, .int .i64 z, .slice x n c] 26 (0, 0)) := by rw [hw7]; simpa using heap_setCell_same w6 X 1 _ _ (.int .i64 z) hX6
   have hbz : Below X w6 w7 := by rw [hw7]; exact (Below.refl _ _).setCell (p := ⟨X, 1, none⟩) (by simp) _
   have hRz : w7.heap[w.heap.size]? = _ := (hbz.block _ (by omega)).trans hR6
   have hoz : bF w7 w1.heap.size (.slice x n c) es := fG ho6 (fun k hk => hbz.block k (hoX k hk))
   have hgz : w.grownBy w7 (some g) := grown_below hgw6 (hbz.mono (by omega))
   have hdz : Dr B g a len cap w7 := hd6.over hbz (by omega)
   obtain ⟨m0, m1, m2⟩ := ah hX6; have fm := fun j => frozen_of_row w6 X j _ _ hX6
   simp at m0 m1 m2
   have hw7w := ae hw7.symm; replace hw7 := ae hw7; replace hX6 := ae hX6; replace hR6 := ae hR6; replace ho6 := ae ho6; replace hgw6 := ae hgw6; replace hbz := ae hbz; replace hd6 := ae hd6; replace hg6 := ae hg6; go_upto_region 9 with fail
   rw [hw7w.out]; clear m0 m1 m2 fm; obtain ⟨q0, q1, q2⟩ := ah hXz; obtain ⟨y0, y1, y2⟩ := ah hRz; have f2 := fun j => frozen_of_row w7 w.heap.size j _ _ hRz
   simp at q0 q1 q2 y0 y1 y2
   have hfz := fin.out w7 r z x n c es (by first | rfl | exact hm.out | (have := hm.out; simp; omega)) ⟨by omega, by omega, by have := hm.out; omega⟩ hoz hgz hdz
   have hset := set3 hRz (.int .i64 r) (.int .i64 z) (.slice x n c); replace hfz := ae hfz; replace hset := ae hset; replace hXz := ae hXz; replace hRz := ae hRz; replace hoz := ae hoz; replace hgz := ae hgz; replace hdz := ae hdz; go_wp2
   (try simp only [Exit.inBlock, Exit.then])
   refine dM (cs := #[(.int .i64 r), (.int .i64 z), .slice x n c]) rfl (g := w.heap.size) rfl (by exact hset.out) Tryz.underlying26 aB ?_
   exact hfz.out
 by_cases k1 : k = 1
 · subst k1
   have hpk := uS (fun z => 0 ≤ z ∧ z ≤ 4) (hd5.out.alloc (.cells #[.int .i64 0, .int .i64 1, .int .i64 4] 3)) w5.heap.size 3 (by omega) (by omega) (by have := hd5.out.lt; omega) (pI _ w5 [0, 1, 4] _ rfl (by decide))
   have hg5p := ae (aj hg5.out (World.grownBy_alloc w5 (.cells #[.int .i64 0, .int .i64 1, .int .i64 4] 3) (some g))); have hX5p : Hid ((w5.alloc (.cells #[.int .i64 0, .int .i64 1, .int .i64 4] 3)).heap[X]? = _) := ae ((heap_alloc_old w5 _ (by omega)).trans hX5.out)
   have hR5p : Hid ((w5.alloc (.cells #[.int .i64 0, .int .i64 1, .int .i64 4] 3)).heap[w.heap.size]? = _) := ae ((heap_alloc_old w5 _ (by omega)).trans hR5.out)
   have ho5p : Hid (bF (w5.alloc (.cells #[.int .i64 0, .int .i64 1, .int .i64 4] 3)) w1.heap.size (.slice x n c) es) := ae (World.ownsRow.alloc ho5.out _); have hs5p : w5.heap.size < (w5.alloc (.cells #[.int .i64 0, .int .i64 1, .int .i64 4] 3)).heap.size := by simp
   replace hs5p := ae hs5p; go_wp2_with fail; refine hpk.mono ?_; rintro e w6 ⟨z, ⟨z1, z2⟩, rfl, hg6, hd6⟩; clear hpk; have hX6 := (bC hg6 (by have := hs5p.out; omega) (by have := hgX; omega)).trans hX5p.out
   have hR6 := (bC hg6 (by have := hs5p.out; omega) (by have := hgR; omega)).trans hR5p.out
   have ho6 : bF w6 w1.heap.size (.slice x n c) es := fG ho5p.out (fun k hk => hg6.block k (by have := (World.ownsRow.lt ho5p.out k hk).2; exact this) (fun e => by cases e; have := (World.ownsRow.lt ho5p.out g hk).1; omega))
   have hgw6 := aj hg5p.out hg6; obtain ⟨w7, hw7⟩ := ag (w6.setCell ⟨X, 0, none⟩ (.int .i64 z)); have hXz : w7.heap[X]? = some (.cells #[.int .i64 z, .int .i64 s, .slice x n c] 26 (0, 0)) := by rw [hw7]; simpa using heap_setCell_same w6 X 0 _ _ (.int .i64 z) hX6
   have hbz : Below X w6 w7 := by rw [hw7]; exact (Below.refl _ _).setCell (p := ⟨X, 0, none⟩) (by simp) _
   have hRz : w7.heap[w.heap.size]? = _ := (hbz.block _ (by omega)).trans hR6
   have hoz : bF w7 w1.heap.size (.slice x n c) es := fG ho6 (fun k hk => hbz.block k (hoX k hk))
   have hgz : w.grownBy w7 (some g) := grown_below hgw6 (hbz.mono (by omega))
   have hdz : Dr B g a len cap w7 := hd6.over hbz (by omega)
   obtain ⟨m0, m1, m2⟩ := ah hX6; have fm := fun j => frozen_of_row w6 X j _ _ hX6
   simp at m0 m1 m2
   have hw7w := ae hw7.symm; replace hw7 := ae hw7; replace hX6 := ae hX6; replace hR6 := ae hR6; replace ho6 := ae ho6; replace hgw6 := ae hgw6; replace hbz := ae hbz; replace hd6 := ae hd6; replace hg6 := ae hg6; go_upto_region 9 with fail
   rw [hw7w.out]; clear m0 m1 m2 fm; obtain ⟨q0, q1, q2⟩ := ah hXz; obtain ⟨y0, y1, y2⟩ := ah hRz; have f2 := fun j => frozen_of_row w7 w.heap.size j _ _ hRz
   simp at q0 q1 q2 y0 y1 y2
   have hfz := fin.out w7 z s x n c es (by first | rfl | exact hm.out | (have := hm.out; simp; omega)) ⟨by omega, by omega, by have := hm.out; omega⟩ hoz hgz hdz
   have hset := set3 hRz (.int .i64 z) (.int .i64 s) (.slice x n c); replace hfz := ae hfz; replace hset := ae hset; replace hXz := ae hXz; replace hRz := ae hRz; replace hoz := ae hoz; replace hgz := ae hgz; replace hdz := ae hdz; go_wp2
   (try simp only [Exit.inBlock, Exit.then])
   refine dM (cs := #[(.int .i64 z), (.int .i64 s), .slice x n c]) rfl (g := w.heap.size) rfl (by exact hset.out) Tryz.underlying26 aB ?_
   exact hfz.out
 by_cases k2 : k = 2
 · subst k2
   obtain ⟨wd, hwd⟩ := ag w5.drew; have hXd : Hid (wd.heap[X]? = some (.cells #[.int .i64 r, .int .i64 s, .slice x n c] 26 (0, 0))) := ae (by rw [hwd]; exact hX5.out)
   have hRd : Hid (wd.heap[w.heap.size]? = some (.cells #[.int .i64 0, .int .i64 0, .slice none 0 0] 26 (0, 0))) := ae (by rw [hwd]; exact hR5.out)
   have hod : Hid (bF wd w1.heap.size (.slice x n c) es) := ae (by rw [hwd]; exact ho5.out)
   have hbd : Below w5.heap.size w5 wd := by rw [hwd]; exact bf (Below.refl _ _) 1
   have hgd := ae (grown_below hg5.out (hbd.mono (by have := hg5.out.size; omega)))
   have hdd := hd5.out.over hbd (by have := hd5.out.lt; omega)
   have hszd := hbd.size; have hbl := dG hdd 4 4 rfl (by omega) (by omega)
   obtain ⟨n0, n1, n2⟩ := ah hXd.out; simp at n0 n1 n2
   have hwdw := ae hwd.symm; replace hwd := ae hwd; replace hdd := ae hdd; replace hbd := ae hbd; go_upto_region 8 with fail
   refine bV (fun _ _ d _ _ h => by cases d <;> exact h) (fun Q' hnorm hpan => ?_)
   refine wp_region_held_drew (S := (fun W0 => W0.cell? ⟨X, 0, none⟩ = some (.int .i64 r) ∧ W0.cell? ⟨X, 1, none⟩ = some (.int .i64 s))) (by kernel_rfl) ?_ (fun hHeld => ?_)
   · try dsimp only
     first | ((repeat' apply And.intro) <;> assumption) | (rw [hwdw.out]; ((repeat' apply And.intro) <;> assumption))
   rw [hwdw.out] at hHeld ⊢; refine tk 0 22 ?_; refine tk 2 24 ?_; refine wpAnyH_ready (rs := [1, 3]) (by kernel_rfl) (by simp) ?_
   refine AllReadyH.cons rfl (fun K hK => ?_) ?_
   ·
    rw [if_pos (by rfl)]
    go_simp; refine hK.out _ _ ?_ (fun hHeld => ?_)
    · try dsimp only
      ((repeat' apply And.intro) <;> assumption)
    clear hK; try simp only [Act.put, aJ, aH, aI]
    refine rd 3 (fun K hK => ?_)
    rw [if_pos (by rfl)]
    go_simp; refine hbl.mono ?_; rintro e w6 ⟨f, ⟨f1, f2⟩, rfl, hg6, hd6⟩; clear hbl; have hX6 := (bC hg6 (by omega) (by have := hgX; omega)).trans hXd.out
    have hR6 := (bC hg6 (by omega) (by have := hgR; omega)).trans hRd.out
    have ho6 : bF w6 w1.heap.size (.slice x n c) es := fG hod.out (fun k hk => hg6.block k (by have := (World.ownsRow.lt hod.out k hk).2; exact this) (fun e => by cases e; have := (World.ownsRow.lt hod.out g hk).1; omega))
    have hgw6 := aj hgd.out hg6; have hs6 := hg6.size; obtain ⟨p0, p1, p2⟩ := ah hX6; simp at p0 p1 p2
    replace ho6 := ae ho6; refine hK.out _ _ ?_ (fun hHeld => ?_)
    · try dsimp only
      ((repeat' apply And.intro) <;> assumption)
    clear hK; try simp only [Act.put, aJ, aH, aI]
    refine tk 4 26 ?_; refine rd 5 (fun K hK => ?_)
    rw [if_pos (by rfl)]
    go_simp; obtain ⟨w7, hw7⟩ := ag (w6.alloc (.cells #[.int .i64 f, .int .i64 1, .int .i64 0] 36)); have hb7 : Below w6.heap.size w6 w7 := by rw [hw7]; exact (Below.refl _ _).alloc (nl _) _
    have hs7 : w7.heap.size = w6.heap.size + 1 := by rw [hw7]; simp
    have hL7 : w7.heap[w6.heap.size]? = some (.cells #[.int .i64 f, .int .i64 1, .int .i64 0] 36 (0, 0)) := by rw [hw7]; exact heap_alloc_new _ _
    have hX7 := (hb7.block X (by omega)).trans hX6
    have hR7 := (hb7.block _ (by omega)).trans hR6
    have ho7 : bF w7 w1.heap.size (.slice x n c) es := by rw [hw7]; exact World.ownsRow.alloc ho6.out _
    have hgw7 := grown_below hgw6 (hb7.mono (by have := hgw6.size; omega))
    have hd7 := hd6.over hb7 (by have := hd6.lt; omega)
    obtain ⟨v0, v1, v2⟩ := ah hX7; simp at v0 v1 v2
    have hrl : ay w7.heap.size w7 (.slice (some ⟨w6.heap.size, 0, none⟩) 1 1) [(f, 1, 0)] := ⟨rfl, by simp, _, _, rfl, ⟨(fun e => by cases e), nl _⟩, .inr ⟨_, 0, rfl, by omega, fun k hk => by
     have l0 := cell_of_heap hL7 k; rw [Nat.zero_add]
     match k, hk with
     | 0, _ => simpa [aC] using l0
     | 1, _ => simpa [aC] using l0
     | 2, _ => simpa [aC] using l0⟩⟩
    rw [← hw7]; replace hw7 := ae hw7; replace hrl := ae hrl; replace ho7 := ae ho7; refine hK.out _ _ ?_ (fun hHeld => ?_)
    · try dsimp only
      ((repeat' apply And.intro) <;> assumption)
    clear hK; try simp only [Act.put, aJ, aH, aI]
    refine rd 6 (fun K hK => ?_)
    rw [if_pos (by rfl)]
    refine lF _ _ rfl w1.heap.size (.slice x n c) _ es [(f, 1, 0)] w7.heap.size rfl rfl (by exact ho7.out) (by exact hrl.out) (by have := hm.out; simp; omega) (by omega) (by simp) ?_
    intro v' w8 ho8 hg8 hloc; obtain ⟨x8, m8, c8, rfl⟩ := bG.form3 ho8; have hX8 := (hg8.block X (by omega) (fun e => by have := hoX X e.symm; omega)).trans hX7
    have hR8 := (hg8.block w.heap.size (by omega) (fun e => by have := (World.ownsRow.lt ho7.out w.heap.size e.symm).1; omega)).trans hR7
    have hgw8 : w.grownBy w8 (some g) := grown_below hgw7 ((Below.refl w.heap.size w7).grown hg8 (by omega) (fun k hk => by have := (World.ownsRow.lt ho7.out k hk).1; omega))
    have hd8 : Dr B g a len cap w8 := hd7.over ((Below.refl w.heap.size w7).grown hg8 (by omega) (fun k hk => by have := (World.ownsRow.lt ho7.out k hk).1; omega)) (by omega)
    have hs8 := hg8.size; have hb8X : ∀ k, Value.ownBlock (.slice x8 m8 c8) = some k → k ≠ X := fun k hk e => by
     rcases hloc with h1 | h1
     · rw [h1] at hk; have := hoX k hk; omega
     · rw [h1] at hk; have : w7.heap.size = k := by simpa using hk
       omega
    obtain ⟨u0, u1, u2⟩ := ah hX8; have fu := fun j => frozen_of_row w8 X j _ _ hX8
    simp at u0 u1 u2
    have hm8 := (bG.row ho8 (by have := hm.out; simp; omega)).cap.1
    replace ho8 := ae ho8; replace hm8 := ae hm8; refine hK.out _ _ ?_ (fun hHeld => ?_)
    · try dsimp only
      ((repeat' apply And.intro) <;> assumption)
    clear hK; try simp only [Act.put, aJ, aH, aI]
    refine tk 7 29 ?_; refine rd 8 (fun K hK => ?_)
    rw [if_pos (by rfl)]
    go_simp; obtain ⟨w9, hw9⟩ := ag (w8.setCell ⟨X, 2, none⟩ (.slice x8 m8 c8)); have hXz : w9.heap[X]? = some (.cells #[.int .i64 r, .int .i64 s, .slice x8 m8 c8] 26 (0, 0)) := by rw [hw9]; simpa using heap_setCell_same w8 X 2 _ _ (.slice x8 m8 c8) hX8
    have hbz : Below X w8 w9 := by rw [hw9]; exact (Below.refl _ _).setCell (p := ⟨X, 2, none⟩) (by simp) _
    have hRz : w9.heap[w.heap.size]? = _ := (hbz.block _ (by omega)).trans hR8
    have hoz : bF w9 w1.heap.size (.slice x8 m8 c8) (es ++ [(f, 1, 0)]) := fG ho8.out (fun k hk => by rw [hw9]; exact Below.heap_setCell _ _ _ _ (hb8X k hk))
    have hgz : w.grownBy w9 (some g) := grown_below hgw8 (hbz.mono (by omega))
    have hdz : Dr B g a len cap w9 := hd8.over hbz (by omega)
    rw [← hw9]; replace hw9 := ae hw9; obtain ⟨t0, t1, t2⟩ := ah hXz; simp at t0 t1 t2
    refine hK.out _ _ ?_ (fun hHeld => ?_)
    · try dsimp only
      ((repeat' apply And.intro) <;> assumption)
    clear hK; try simp only [Act.put, aJ, aH, aI]
    refine wpAnyH_done (by kernel_rfl) ?_ _
    refine hnorm _ _ ?_; clear hnorm hpan; repeat clear hHeld
    try simp only [Exit.then]
    obtain ⟨q0, q1, q2⟩ := ah hXz; obtain ⟨y0, y1, y2⟩ := ah hRz; have f2 := fun j => frozen_of_row w9 w.heap.size j _ _ hRz
    simp at q0 q1 q2 y0 y1 y2
    have hfz := fin.out w9 r s x8 m8 c8 (es ++ [(f, 1, 0)]) (by first | rfl | exact hm8.out | (have := hm.out; simp; omega)) ⟨by omega, by omega, by rw [List.length_append, List.length_singleton]; have := hm.out; omega⟩ hoz hgz hdz
    have hset := set3 hRz (.int .i64 r) (.int .i64 s) (.slice x8 m8 c8); replace hfz := ae hfz; replace hset := ae hset; replace hXz := ae hXz; replace hRz := ae hRz; replace hoz := ae hoz; replace hgz := ae hgz; replace hdz := ae hdz; go_wp2
    (try simp only [Exit.inBlock, Exit.then])
    refine dM (cs := #[(.int .i64 r), (.int .i64 s), .slice x8 m8 c8]) rfl (g := w.heap.size) rfl (by exact hset.out) Tryz.underlying26 aB ?_
    exact hfz.out
   refine AllReadyH.cons rfl (fun K hK => ?_) AllReadyH.nil
   rw [if_pos (by rfl)]
   go_simp; refine hbl.mono ?_; rintro e w6 ⟨f, ⟨f1, f2⟩, rfl, hg6, hd6⟩; clear hbl; have hX6 := (bC hg6 (by omega) (by have := hgX; omega)).trans hXd.out
   have hR6 := (bC hg6 (by omega) (by have := hgR; omega)).trans hRd.out
   have ho6 : bF w6 w1.heap.size (.slice x n c) es := fG hod.out (fun k hk => hg6.block k (by have := (World.ownsRow.lt hod.out k hk).2; exact this) (fun e => by cases e; have := (World.ownsRow.lt hod.out g hk).1; omega))
   have hgw6 := aj hgd.out hg6; have hs6 := hg6.size; obtain ⟨p0, p1, p2⟩ := ah hX6; simp at p0 p1 p2
   replace ho6 := ae ho6; refine hK.out _ _ ?_ (fun hHeld => ?_)
   · try dsimp only
     ((repeat' apply And.intro) <;> assumption)
   clear hK; try simp only [Act.put, aJ, aH, aI]
   refine tk 4 26 ?_; refine wpAnyH_ready (rs := [1, 5]) (by kernel_rfl) (by simp) ?_
   refine AllReadyH.cons rfl (fun K hK => ?_) ?_
   ·
    rw [if_pos (by rfl)]
    go_simp; refine hK.out _ _ ?_ (fun hHeld => ?_)
    · try dsimp only
      ((repeat' apply And.intro) <;> assumption)
    clear hK; try simp only [Act.put, aJ, aH, aI]
    refine rd 5 (fun K hK => ?_)
    rw [if_pos (by rfl)]
    go_simp; obtain ⟨w7, hw7⟩ := ag (w6.alloc (.cells #[.int .i64 f, .int .i64 1, .int .i64 0] 36)); have hb7 : Below w6.heap.size w6 w7 := by rw [hw7]; exact (Below.refl _ _).alloc (nl _) _
    have hs7 : w7.heap.size = w6.heap.size + 1 := by rw [hw7]; simp
    have hL7 : w7.heap[w6.heap.size]? = some (.cells #[.int .i64 f, .int .i64 1, .int .i64 0] 36 (0, 0)) := by rw [hw7]; exact heap_alloc_new _ _
    have hX7 := (hb7.block X (by omega)).trans hX6
    have hR7 := (hb7.block _ (by omega)).trans hR6
    have ho7 : bF w7 w1.heap.size (.slice x n c) es := by rw [hw7]; exact World.ownsRow.alloc ho6.out _
    have hgw7 := grown_below hgw6 (hb7.mono (by have := hgw6.size; omega))
    have hd7 := hd6.over hb7 (by have := hd6.lt; omega)
    obtain ⟨v0, v1, v2⟩ := ah hX7; simp at v0 v1 v2
    have hrl : ay w7.heap.size w7 (.slice (some ⟨w6.heap.size, 0, none⟩) 1 1) [(f, 1, 0)] := ⟨rfl, by simp, _, _, rfl, ⟨(fun e => by cases e), nl _⟩, .inr ⟨_, 0, rfl, by omega, fun k hk => by
     have l0 := cell_of_heap hL7 k; rw [Nat.zero_add]
     match k, hk with
     | 0, _ => simpa [aC] using l0
     | 1, _ => simpa [aC] using l0
     | 2, _ => simpa [aC] using l0⟩⟩
    rw [← hw7]; replace hw7 := ae hw7; replace hrl := ae hrl; replace ho7 := ae ho7; refine hK.out _ _ ?_ (fun hHeld => ?_)
    · try dsimp only
      ((repeat' apply And.intro) <;> assumption)
    clear hK; try simp only [Act.put, aJ, aH, aI]
    refine rd 6 (fun K hK => ?_)
    rw [if_pos (by rfl)]
    refine lF _ _ rfl w1.heap.size (.slice x n c) _ es [(f, 1, 0)] w7.heap.size rfl rfl (by exact ho7.out) (by exact hrl.out) (by have := hm.out; simp; omega) (by omega) (by simp) ?_
    intro v' w8 ho8 hg8 hloc; obtain ⟨x8, m8, c8, rfl⟩ := bG.form3 ho8; have hX8 := (hg8.block X (by omega) (fun e => by have := hoX X e.symm; omega)).trans hX7
    have hR8 := (hg8.block w.heap.size (by omega) (fun e => by have := (World.ownsRow.lt ho7.out w.heap.size e.symm).1; omega)).trans hR7
    have hgw8 : w.grownBy w8 (some g) := grown_below hgw7 ((Below.refl w.heap.size w7).grown hg8 (by omega) (fun k hk => by have := (World.ownsRow.lt ho7.out k hk).1; omega))
    have hd8 : Dr B g a len cap w8 := hd7.over ((Below.refl w.heap.size w7).grown hg8 (by omega) (fun k hk => by have := (World.ownsRow.lt ho7.out k hk).1; omega)) (by omega)
    have hs8 := hg8.size; have hb8X : ∀ k, Value.ownBlock (.slice x8 m8 c8) = some k → k ≠ X := fun k hk e => by
     rcases hloc with h1 | h1
     · rw [h1] at hk; have := hoX k hk; omega
     · rw [h1] at hk; have : w7.heap.size = k := by simpa using hk
       omega
    obtain ⟨u0, u1, u2⟩ := ah hX8; have fu := fun j => frozen_of_row w8 X j _ _ hX8
    simp at u0 u1 u2
    have hm8 := (bG.row ho8 (by have := hm.out; simp; omega)).cap.1
    replace ho8 := ae ho8; replace hm8 := ae hm8; refine hK.out _ _ ?_ (fun hHeld => ?_)
    · try dsimp only
      ((repeat' apply And.intro) <;> assumption)
    clear hK; try simp only [Act.put, aJ, aH, aI]
    refine tk 7 29 ?_; refine rd 8 (fun K hK => ?_)
    rw [if_pos (by rfl)]
    go_simp; obtain ⟨w9, hw9⟩ := ag (w8.setCell ⟨X, 2, none⟩ (.slice x8 m8 c8)); have hXz : w9.heap[X]? = some (.cells #[.int .i64 r, .int .i64 s, .slice x8 m8 c8] 26 (0, 0)) := by rw [hw9]; simpa using heap_setCell_same w8 X 2 _ _ (.slice x8 m8 c8) hX8
    have hbz : Below X w8 w9 := by rw [hw9]; exact (Below.refl _ _).setCell (p := ⟨X, 2, none⟩) (by simp) _
    have hRz : w9.heap[w.heap.size]? = _ := (hbz.block _ (by omega)).trans hR8
    have hoz : bF w9 w1.heap.size (.slice x8 m8 c8) (es ++ [(f, 1, 0)]) := fG ho8.out (fun k hk => by rw [hw9]; exact Below.heap_setCell _ _ _ _ (hb8X k hk))
    have hgz : w.grownBy w9 (some g) := grown_below hgw8 (hbz.mono (by omega))
    have hdz : Dr B g a len cap w9 := hd8.over hbz (by omega)
    rw [← hw9]; replace hw9 := ae hw9; obtain ⟨t0, t1, t2⟩ := ah hXz; simp at t0 t1 t2
    refine hK.out _ _ ?_ (fun hHeld => ?_)
    · try dsimp only
      ((repeat' apply And.intro) <;> assumption)
    clear hK; try simp only [Act.put, aJ, aH, aI]
    refine wpAnyH_done (by kernel_rfl) ?_ _
    refine hnorm _ _ ?_; clear hnorm hpan; repeat clear hHeld
    try simp only [Exit.then]
    obtain ⟨q0, q1, q2⟩ := ah hXz; obtain ⟨y0, y1, y2⟩ := ah hRz; have f2 := fun j => frozen_of_row w9 w.heap.size j _ _ hRz
    simp at q0 q1 q2 y0 y1 y2
    have hfz := fin.out w9 r s x8 m8 c8 (es ++ [(f, 1, 0)]) (by first | rfl | exact hm8.out | (have := hm.out; simp; omega)) ⟨by omega, by omega, by rw [List.length_append, List.length_singleton]; have := hm.out; omega⟩ hoz hgz hdz
    have hset := set3 hRz (.int .i64 r) (.int .i64 s) (.slice x8 m8 c8); replace hfz := ae hfz; replace hset := ae hset; replace hXz := ae hXz; replace hRz := ae hRz; replace hoz := ae hoz; replace hgz := ae hgz; replace hdz := ae hdz; go_wp2
    (try simp only [Exit.inBlock, Exit.then])
    refine dM (cs := #[(.int .i64 r), (.int .i64 s), .slice x8 m8 c8]) rfl (g := w.heap.size) rfl (by exact hset.out) Tryz.underlying26 aB ?_
    exact hfz.out
   refine AllReadyH.cons rfl (fun K hK => ?_) AllReadyH.nil
   rw [if_pos (by rfl)]
   go_simp; obtain ⟨w7, hw7⟩ := ag (w6.alloc (.cells #[.int .i64 f, .int .i64 1, .int .i64 0] 36)); have hb7 : Below w6.heap.size w6 w7 := by rw [hw7]; exact (Below.refl _ _).alloc (nl _) _
   have hs7 : w7.heap.size = w6.heap.size + 1 := by rw [hw7]; simp
   have hL7 : w7.heap[w6.heap.size]? = some (.cells #[.int .i64 f, .int .i64 1, .int .i64 0] 36 (0, 0)) := by rw [hw7]; exact heap_alloc_new _ _
   have hX7 := (hb7.block X (by omega)).trans hX6
   have hR7 := (hb7.block _ (by omega)).trans hR6
   have ho7 : bF w7 w1.heap.size (.slice x n c) es := by rw [hw7]; exact World.ownsRow.alloc ho6.out _
   have hgw7 := grown_below hgw6 (hb7.mono (by have := hgw6.size; omega))
   have hd7 := hd6.over hb7 (by have := hd6.lt; omega)
   obtain ⟨v0, v1, v2⟩ := ah hX7; simp at v0 v1 v2
   have hrl : ay w7.heap.size w7 (.slice (some ⟨w6.heap.size, 0, none⟩) 1 1) [(f, 1, 0)] := ⟨rfl, by simp, _, _, rfl, ⟨(fun e => by cases e), nl _⟩, .inr ⟨_, 0, rfl, by omega, fun k hk => by
    have l0 := cell_of_heap hL7 k; rw [Nat.zero_add]
    match k, hk with
    | 0, _ => simpa [aC] using l0
    | 1, _ => simpa [aC] using l0
    | 2, _ => simpa [aC] using l0⟩⟩
   rw [← hw7]; replace hw7 := ae hw7; replace hrl := ae hrl; replace ho7 := ae ho7; refine hK.out _ _ ?_ (fun hHeld => ?_)
   · try dsimp only
     ((repeat' apply And.intro) <;> assumption)
   clear hK; try simp only [Act.put, aJ, aH, aI]
   refine rd 1 (fun K hK => ?_)
   rw [if_pos (by rfl)]
   go_simp; refine hK.out _ _ ?_ (fun hHeld => ?_)
   · try dsimp only
     ((repeat' apply And.intro) <;> assumption)
   clear hK; try simp only [Act.put, aJ, aH, aI]
   refine rd 6 (fun K hK => ?_)
   rw [if_pos (by rfl)]
   refine lF _ _ rfl w1.heap.size (.slice x n c) _ es [(f, 1, 0)] w7.heap.size rfl rfl (by exact ho7.out) (by exact hrl.out) (by have := hm.out; simp; omega) (by omega) (by simp) ?_
   intro v' w8 ho8 hg8 hloc; obtain ⟨x8, m8, c8, rfl⟩ := bG.form3 ho8; have hX8 := (hg8.block X (by omega) (fun e => by have := hoX X e.symm; omega)).trans hX7
   have hR8 := (hg8.block w.heap.size (by omega) (fun e => by have := (World.ownsRow.lt ho7.out w.heap.size e.symm).1; omega)).trans hR7
   have hgw8 : w.grownBy w8 (some g) := grown_below hgw7 ((Below.refl w.heap.size w7).grown hg8 (by omega) (fun k hk => by have := (World.ownsRow.lt ho7.out k hk).1; omega))
   have hd8 : Dr B g a len cap w8 := hd7.over ((Below.refl w.heap.size w7).grown hg8 (by omega) (fun k hk => by have := (World.ownsRow.lt ho7.out k hk).1; omega)) (by omega)
   have hs8 := hg8.size; have hb8X : ∀ k, Value.ownBlock (.slice x8 m8 c8) = some k → k ≠ X := fun k hk e => by
    rcases hloc with h1 | h1
    · rw [h1] at hk; have := hoX k hk; omega
    · rw [h1] at hk; have : w7.heap.size = k := by simpa using hk
      omega
   obtain ⟨u0, u1, u2⟩ := ah hX8; have fu := fun j => frozen_of_row w8 X j _ _ hX8
   simp at u0 u1 u2
   have hm8 := (bG.row ho8 (by have := hm.out; simp; omega)).cap.1
   replace ho8 := ae ho8; replace hm8 := ae hm8; refine hK.out _ _ ?_ (fun hHeld => ?_)
   · try dsimp only
     ((repeat' apply And.intro) <;> assumption)
   clear hK; try simp only [Act.put, aJ, aH, aI]
   refine tk 7 29 ?_; refine rd 8 (fun K hK => ?_)
   rw [if_pos (by rfl)]
   go_simp; obtain ⟨w9, hw9⟩ := ag (w8.setCell ⟨X, 2, none⟩ (.slice x8 m8 c8)); have hXz : w9.heap[X]? = some (.cells #[.int .i64 r, .int .i64 s, .slice x8 m8 c8] 26 (0, 0)) := by rw [hw9]; simpa using heap_setCell_same w8 X 2 _ _ (.slice x8 m8 c8) hX8
   have hbz : Below X w8 w9 := by rw [hw9]; exact (Below.refl _ _).setCell (p := ⟨X, 2, none⟩) (by simp) _
   have hRz : w9.heap[w.heap.size]? = _ := (hbz.block _ (by omega)).trans hR8
   have hoz : bF w9 w1.heap.size (.slice x8 m8 c8) (es ++ [(f, 1, 0)]) := fG ho8.out (fun k hk => by rw [hw9]; exact Below.heap_setCell _ _ _ _ (hb8X k hk))
   have hgz : w.grownBy w9 (some g) := grown_below hgw8 (hbz.mono (by omega))
   have hdz : Dr B g a len cap w9 := hd8.over hbz (by omega)
   rw [← hw9]; replace hw9 := ae hw9; obtain ⟨t0, t1, t2⟩ := ah hXz; simp at t0 t1 t2
   refine hK.out _ _ ?_ (fun hHeld => ?_)
   · try dsimp only
     ((repeat' apply And.intro) <;> assumption)
   clear hK; try simp only [Act.put, aJ, aH, aI]
   refine wpAnyH_done (by kernel_rfl) ?_ _
   refine hnorm _ _ ?_; clear hnorm hpan; repeat clear hHeld
   try simp only [Exit.then]
   obtain ⟨q0, q1, q2⟩ := ah hXz; obtain ⟨y0, y1, y2⟩ := ah hRz; have f2 := fun j => frozen_of_row w9 w.heap.size j _ _ hRz
   simp at q0 q1 q2 y0 y1 y2
   have hfz := fin.out w9 r s x8 m8 c8 (es ++ [(f, 1, 0)]) (by first | rfl | exact hm8.out | (have := hm.out; simp; omega)) ⟨by omega, by omega, by rw [List.length_append, List.length_singleton]; have := hm.out; omega⟩ hoz hgz hdz
   have hset := set3 hRz (.int .i64 r) (.int .i64 s) (.slice x8 m8 c8); replace hfz := ae hfz; replace hset := ae hset; replace hXz := ae hXz; replace hRz := ae hRz; replace hoz := ae hoz; replace hgz := ae hgz; replace hdz := ae hdz; go_wp2
   (try simp only [Exit.inBlock, Exit.then])
   refine dM (cs := #[(.int .i64 r), (.int .i64 s), .slice x8 m8 c8]) rfl (g := w.heap.size) rfl (by exact hset.out) Tryz.underlying26 aB ?_
   exact hfz.out
 · have hne0 : (k == 0) = false := by rw [beq_eq_false_iff_ne]; exact k0
   have hne1 : (k == 1) = false := by rw [beq_eq_false_iff_ne]; exact k1
   have hne2 : (k == 2) = false := by rw [beq_eq_false_iff_ne]; exact k2
   have hXz := hX5.out; have hRz := hR5.out; have hoz := ho5.out; have hgz := hg5.out; have hdz := hd5.out; obtain ⟨q0, q1, q2⟩ := ah hXz; obtain ⟨y0, y1, y2⟩ := ah hRz; have f2 := fun j => frozen_of_row w5 w.heap.size j _ _ hRz
   simp at q0 q1 q2 y0 y1 y2
   have hfz := fin.out w5 r s x n c es (by first | rfl | exact hm.out | (have := hm.out; simp; omega)) ⟨by omega, by omega, by have := hm.out; omega⟩ hoz hgz hdz
   have hset := set3 hRz (.int .i64 r) (.int .i64 s) (.slice x n c); replace hfz := ae hfz; replace hset := ae hset; replace hXz := ae hXz; replace hRz := ae hRz; replace hoz := ae hoz; replace hgz := ae hgz; replace hdz := ae hdz; go_wp2
   (try simp only [Exit.inBlock, Exit.then])
   refine dM (cs := #[(.int .i64 r), (.int .i64 s), .slice x n c]) rfl (g := w.heap.size) rfl (by exact hset.out) Tryz.underlying26 aB ?_
   exact hfz.out
end Go.Proofs.YtgnomlcjikfdhaaGreat
