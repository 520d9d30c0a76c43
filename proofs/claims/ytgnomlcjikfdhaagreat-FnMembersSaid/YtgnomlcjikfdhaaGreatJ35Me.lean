import Derived.Deep.Cut
import Derived.Deep.LoopGhost
import Derived.Test.YtgnomlcjikfdhaaGreatJ15Me
import Derived.Test.YtgnomlcjikfdhaaGreatJ25Me
import Derived.Test.YtgnomlcjikfdhaaGreatJ34Me
import Derived.Test.YtgnomlcjikfdhaaGreatJ26Me
import Derived.Test.YtgnomlcjikfdhaaGreatJ12Me
namespace Go.Proofs.YtgnomlcjikfdhaaGreat
open Go.RowKit
set_option linter.unusedVariables false
set_option linter.unusedSimpArgs false
theorem Hq {r s : Int} {es : List Ed} (h : -1 ≤ s ∧ s ≤ 41) : -1 ≤ qy r s es ∧ qy r s es ≤ 41 := by
 cases hg : aK r s es with
 | true =>
  have := qE (LQ hg).2.2; omega
 | false =>
  have hf : bJ r s es = false := by unfold bJ; rw [hg]; rfl
  unfold qy; rw [(EF hg).1, (EF hg).2, (xJ hg).1, (xJ hg).2.1]; have e : gB r s es = [] := by unfold gB mJ; rw [hf]; rfl
  unfold jr; rw [e]; exact h
theorem Ia {r : Int} {zss : List (List Int)} (hr : 1 ≤ r ∧ r ≤ 3) (hz : J5 zss) : nM (wX r zss) (xX r zss) (vO r zss) ∧ jF zss ≤ 15 := by
 obtain ⟨⟨h1, h2, h3⟩, h4⟩ := BU hr hz; have h5 := EH r zss; have h6 := Hq (r := lS r zss) (es := lg r zss) h2; refine ⟨⟨?_, ?_, by omega⟩, h4⟩
 · unfold wX; split <;> omega
 · unfold xX; split <;> omega
set_option maxHeartbeats 6400000 in
set_option maxRecDepth 100000 in
theorem Ll {B g : Nat} {a : Option Addr} {len cap : Nat} {w : World} (h : Dr B g a len cap w) :
 Calls Tryz.prog 103 #[.pointer (some ⟨g, 0, none⟩)] w (ug nM B g a len cap w) := by
 have hlt := h.lt; obtain ⟨w1, hw1⟩ := ag (w.alloc (.cells #[.int .i64 0, .int .i64 0, .slice none 0 0] 26)); have hd1 := h.alloc (.cells #[.int .i64 0, .int .i64 0, .slice none 0 0] 26); have hk1 := heap_alloc_new w (.cells #[.int .i64 0, .int .i64 0, .slice none 0 0] 26); rw [← hw1] at hd1 hk1; have hs1 : w1.heap.size = w.heap.size + 1 := by rw [hw1]; simp
 have hg1 : w.grownBy w1 (some g) := by rw [hw1]; exact World.grownBy_alloc w _ (some g)
 have hww := ae hw1.symm; have fin : ∀ (W : World) (lo hi : Nat) (r' s' : Int) (av : Option Addr) (m c : Nat) (es' : List Ed), m = es'.length → nM r' s' es' → aF 36 3 W lo hi (.slice av m c) m (aC es') → w1.heap.size ≤ lo → hi ≤ W.heap.size → w.grownBy W (some g) → Dr B g a len cap W →
  ug nM B g a len cap w (.returned (.agg #[.int .i64 r', .int .i64 s', .slice av m c])) (((W.setCell ⟨w.heap.size, 0, none⟩ (.int .i64 r')).setCell ⟨w.heap.size, 1, none⟩ (.int .i64 s')).setCell ⟨w.heap.size, 2, none⟩ (.slice av m c)) := by
  intro W lo hi r' s' av m c es' hm hP hrw hlo hhi hgW hdW; subst hm; refine ⟨r', s', av, c, es', hP, rfl, (hrw.set3_ (.inl (by omega))).wide (by omega) (by rw [aW]; exact hhi), su hgW (nl _), hdW.over (aN (Below.refl w.heap.size W) (nl _)) hlt⟩
 replace fin := ae fin; replace hw1 := ae hw1; replace hk1 := ae hk1; replace hg1 := ae hg1; replace hd1 := ae hd1; go_enter Tryz.func103, Tryz.ntmps103
 go_upto_region 1 with fail
 rw [hww.out]; obtain ⟨w2, hw2⟩ := ag w1; have hd2 : Dr B g a len cap w2 := by rw [hw2]; exact hd1.out
 have hsz2 : w1.heap.size ≤ w2.heap.size := by rw [hw2]; exact nl _
 have hR2 : Hid (w2.heap[w.heap.size]? = some (.cells #[.int .i64 0, .int .i64 0, .slice none 0 0] 26 (0, 0))) := by rw [hw2]; exact hk1
 have hg02 : Hid (w.grownBy w2 (some g)) := by rw [hw2]; exact hg1
 rw [← hw2]; replace hw2 := ae hw2; have hpk := uS (fun z => 1 ≤ z ∧ z ≤ 3) (hd2.alloc (.cells #[.int .i64 1, .int .i64 2, .int .i64 2, .int .i64 2, .int .i64 2, .int .i64 3] 3)) w2.heap.size 6 (by omega) (by omega) (by have := hd2.lt; omega) (pI _ w2 [1, 2, 2, 2, 2, 3] _ rfl (by decide))
 have hg2p := ae (aj hg02.out (World.grownBy_alloc w2 (.cells #[.int .i64 1, .int .i64 2, .int .i64 2, .int .i64 2, .int .i64 2, .int .i64 3] 3) (some g))); have hR2p := ae ((heap_alloc_old w2 (.cells #[.int .i64 1, .int .i64 2, .int .i64 2, .int .i64 2, .int .i64 2, .int .i64 3] 3) (by omega)).trans hR2.out)
 have hs2p : w2.heap.size < (w2.alloc (.cells #[.int .i64 1, .int .i64 2, .int .i64 2, .int .i64 2, .int .i64 2, .int .i64 3] 3)).heap.size := by simp
 replace hs2p := ae hs2p; replace hd2 := ae hd2; go_wp2_with fail; refine hpk.mono ?_; rintro e w3 ⟨r0, ⟨r1, r3⟩, rfl, hg3, hd3⟩; clear hpk; obtain ⟨r, rfl⟩ : ∃ r : Nat, r0 = (r : Int) := ⟨r0.toNat, by omega⟩
 have hR3 := ae ((bC hg3 (by have := hs2p.out; omega) (by omega)).trans hR2p.out)
 have hg03 := aj hg2p.out hg3; have hsz3 := hg03.size; have hsz3b : w1.heap.size ≤ w3.heap.size := by have := hg3.size; have := hs2p.out; omega
 have hwd := Hf hd3 r (by omega) (by omega)
 replace hg03 := ae hg03; replace hg3 := ae hg3; replace hd3 := ae hd3; go_wp2_with fail; refine hwd.mono ?_; rintro e w4 ⟨lv, zss, hzs, rfl, hrd4, hg4, hd4⟩; clear hwd; have hsz4 := hg4.size; obtain ⟨hP, htot⟩ := Ia (r := (r : Int)) (by omega) hzs
 have hfl := Gw w4 (r : Int) lv zss hrd4 (by omega)
 have hR4 := ae ((bC hg4 (by omega) (by omega)).trans hR3.out)
 have hg04 := ae (aj hg03.out hg4); obtain ⟨FR, hFR⟩ := ag (wX (r : Int) zss); obtain ⟨FS, hFS⟩ := ag (xX (r : Int) zss); obtain ⟨FE, hFE⟩ := ag (vO (r : Int) zss); obtain ⟨FB, hFB⟩ := ag (jy (r : Int) zss); rw [← hFR, ← hFS, ← hFE, ← hFB] at hfl; rw [← hFR, ← hFS, ← hFE] at hP; obtain ⟨_, lva, lvc, rfl, _, _⟩ : dJ _ _ lv zss := hrd4; obtain ⟨nz, hnz⟩ := ag zss.length; rw [← hnz] at hfl ⊢; replace hnz := ae hnz
 replace hFR := ae hFR; replace hFS := ae hFS; replace hFE := ae hFE; replace hFB := ae hFB; replace hzs := ae hzs; replace hP := ae hP; replace hg4 := ae hg4; replace hd4 := ae hd4; go_wp2_with fail; refine hfl.mono ?_; rintro e w5 ⟨fa, fc, rfl, hrow5, hb5⟩; clear hfl; have hsz5 := hb5.size; obtain ⟨q, hq⟩ := ag FE.length; rw [← hq] at hrow5 ⊢; obtain ⟨X, hX⟩ := ag w5.heap.size; obtain ⟨w6, hw6⟩ := ag (w5.alloc (.cells #[.int .i64 0, .int .i64 0, .slice none 0 0] 26))
 have hX0 : w6.heap[X]? = some (.cells #[.int .i64 0, .int .i64 0, .slice none 0 0] 26 (0, 0)) := by rw [hw6, hX]; exact heap_alloc_new _ _
 have hbw6 : Below w5.heap.size w5 w6 := by rw [hw6]; exact (Below.refl _ _).alloc (nl _) _
 obtain ⟨w7, hw7⟩ := ag (((w6.setCell ⟨X, 0, none⟩ (.int .i64 FR)).setCell ⟨X, 1, none⟩ (.int .i64 FS)).setCell ⟨X, 2, none⟩ (.slice fa q fc)); have hXC : w7.heap[X]? = some (.cells #[.int .i64 FR, .int .i64 FS, .slice fa q fc] 26 (0, 0)) := by rw [hw7]; exact set3 hX0 _ _ _
 have hbw7 : Below w5.heap.size w5 w7 := by rw [hw7, hX]; exact aN hbw6 (nl _)
 have hszC := hbw7.size; have hsw7 : X < w7.heap.size := (Array.getElem?_eq_some_iff.1 hXC).1; obtain ⟨t0, t1, t2⟩ := ah hX0; have ft := fun j => frozen_of_row w6 X j _ _ hX0
 obtain ⟨x0, x1, x2⟩ := ah hXC; simp at t0 t1 t2 x0 x1 x2
 have hBw := ae hw6.symm; have hCw := ae hw7.symm; have hXw := ae hX.symm; replace hw6 := ae hw6; replace hw7 := ae hw7; replace hX0 := ae hX0; replace hX := ae hX; have hb47 := hb5.trans (hbw7.mono hsz5); have hRz := (hb47.block _ (by omega)).trans hR4.out
 have hrz : aF 36 3 w7 w4.heap.size w5.heap.size (.slice fa q fc) q (aC FE) := hrow5.below hbw7 (nl _); have hgz := grown_below hg04.out (hb47.mono (by omega))
 have hdz := hd4.out.over hb47 (by have := hd4.out.lt; omega)
 obtain ⟨y0, y1, y2⟩ := ah hRz; have f2 := fun j => frozen_of_row w7 w.heap.size j _ _ hRz
 simp at y0 y1 y2
 have hfz := fin.out w7 w4.heap.size w5.heap.size FR FS fa q fc FE hq hP.out hrz (by omega) (by omega) hgz hdz
 have hset := set3 hRz (.int .i64 FR) (.int .i64 FS) (.slice fa q fc); replace hfz := ae hfz; replace hset := ae hset; replace hRz := ae hRz; replace hq := ae hq; replace hrow5 := ae hrow5; replace hb5 := ae hb5; replace hb47 := ae hb47; replace hrz := ae hrz; replace hgz := ae hgz; replace hdz := ae hdz; replace hXC := ae hXC; replace hbw7 := ae hbw7; go_upto_region 3 with (first | rw [hBw.out] | rw [hXw.out] | fail)
 try rw [hXw.out]
 rw [hCw.out]; clear t0 t1 t2 ft; go_wp2
 (try simp only [Exit.inBlock, Exit.then])
 refine dM (cs := #[.int .i64 FR, .int .i64 FS, .slice fa q fc]) rfl (g := w.heap.size) rfl (by exact hset.out) Tryz.underlying26 aB ?_
 exact hfz.out
set_option maxHeartbeats 6400000 in
set_option maxRecDepth 100000 in
theorem uK {B g : Nat} {a : Option Addr} {len cap : Nat} {w : World} (h : Dr B g a len cap w) :
 Calls Tryz.prog 65 #[.pointer (some ⟨g, 0, none⟩)] w (ug nM B g a len cap w) := by
 have hlt := h.lt; obtain ⟨w1, hw1⟩ := ag (w.alloc (.cells #[.int .i64 0, .int .i64 0, .slice none 0 0] 26)); have hd1 := h.alloc (.cells #[.int .i64 0, .int .i64 0, .slice none 0 0] 26); have hk1 := heap_alloc_new w (.cells #[.int .i64 0, .int .i64 0, .slice none 0 0] 26); rw [← hw1] at hd1 hk1; have hs1 : w1.heap.size = w.heap.size + 1 := by rw [hw1]; simp
 have hg1 : w.grownBy w1 (some g) := by rw [hw1]; exact World.grownBy_alloc w _ (some g)
 have hww := ae hw1.symm; have fin : ∀ (W : World) (lo hi : Nat) (r' s' : Int) (av : Option Addr) (m c : Nat) (es' : List Ed), m = es'.length → nM r' s' es' → aF 36 3 W lo hi (.slice av m c) m (aC es') → w1.heap.size ≤ lo → hi ≤ W.heap.size → w.grownBy W (some g) → Dr B g a len cap W →
  ug nM B g a len cap w (.returned (.agg #[.int .i64 r', .int .i64 s', .slice av m c])) (((W.setCell ⟨w.heap.size, 0, none⟩ (.int .i64 r')).setCell ⟨w.heap.size, 1, none⟩ (.int .i64 s')).setCell ⟨w.heap.size, 2, none⟩ (.slice av m c)) := by
  intro W lo hi r' s' av m c es' hm hP hrw hlo hhi hgW hdW; subst hm; refine ⟨r', s', av, c, es', hP, rfl, (hrw.set3_ (.inl (by omega))).wide (by omega) (by rw [aW]; exact hhi), su hgW (nl _), hdW.over (aN (Below.refl w.heap.size W) (nl _)) hlt⟩
 replace fin := ae fin; replace hw1 := ae hw1; replace hk1 := ae hk1; replace hg1 := ae hg1; have hon := uM hd1 8 8 rfl (by omega) (by omega)
 replace hd1 := ae hd1; go_enter Tryz.func65, Tryz.ntmps65
 go_upto_region 1 with fail
 rw [hww.out]; go_wp2_with fail; refine hon.mono ?_; rintro e w2 ⟨k, rfl, hg2, hd2⟩; clear hon; have hsz2 := hg2.size; have hR2 := ae ((bC hg2 (by omega) (by omega)).trans hk1.out)
 have hg02 := ae (aj hg1.out hg2)
 cases k with
 | true =>
  have ha := J8 hd2; replace hd2 := ae hd2; replace hg2 := ae hg2; go_wp2_with fail; refine ha.mono ?_; rintro e w3 ⟨r, s, x, c, es, hP, rfl, hrow3, hg3, hd3⟩; clear ha; have hsz3 := hg3.size; have hRz := (bC hg3 (by omega) (by omega)).trans hR2.out
  obtain ⟨n, hm⟩ := ag es.length; rw [← hm] at hrow3 ⊢; obtain ⟨y0, y1, y2⟩ := ah hRz; have f2 := fun j => frozen_of_row w3 w.heap.size j _ _ hRz
  simp at y0 y1 y2
  have hfz := fin.out w3 w2.heap.size w3.heap.size r s x n c es hm hP hrow3 (by omega) (nl _) (aj hg02.out hg3) hd3
  have hset := set3 hRz (.int .i64 r) (.int .i64 s) (.slice x n c); replace hfz := ae hfz; replace hset := ae hset; replace hRz := ae hRz; replace hm := ae hm; replace hP := ae hP; replace hrow3 := ae hrow3; replace hg3 := ae hg3; replace hd3 := ae hd3; go_wp2
  (try simp only [Exit.inBlock, Exit.then])
  refine dM (cs := #[.int .i64 r, .int .i64 s, .slice x n c]) rfl (g := w.heap.size) rfl (by exact hset.out) Tryz.underlying26 aB ?_
  exact hfz.out
 | false =>
  have ha := Ll hd2; replace hd2 := ae hd2; replace hg2 := ae hg2; go_wp2_with fail; refine ha.mono ?_; rintro e w3 ⟨r, s, x, c, es, hP, rfl, hrow3, hg3, hd3⟩; clear ha; have hsz3 := hg3.size; have hRz := (bC hg3 (by omega) (by omega)).trans hR2.out
  obtain ⟨n, hm⟩ := ag es.length; rw [← hm] at hrow3 ⊢; obtain ⟨y0, y1, y2⟩ := ah hRz; have f2 := fun j => frozen_of_row w3 w.heap.size j _ _ hRz
  simp at y0 y1 y2
  have hfz := fin.out w3 w2.heap.size w3.heap.size r s x n c es hm hP hrow3 (by omega) (nl _) (aj hg02.out hg3) hd3
  have hset := set3 hRz (.int .i64 r) (.int .i64 s) (.slice x n c); replace hfz := ae hfz; replace hset := ae hset; replace hRz := ae hRz; replace hm := ae hm; replace hP := ae hP; replace hrow3 := ae hrow3; replace hg3 := ae hg3; replace hd3 := ae hd3; go_wp2
  (try simp only [Exit.inBlock, Exit.then])
  refine dM (cs := #[.int .i64 r, .int .i64 s, .slice x n c]) rfl (g := w.heap.size) rfl (by exact hset.out) Tryz.underlying26 aB ?_
  exact hfz.out
end Go.Proofs.YtgnomlcjikfdhaaGreat
namespace Go.Proofs.YtgnomlcjikfdhaaGreat
open Go.RowKit
set_option linter.unusedVariables false
set_option linter.unusedSimpArgs false
structure MG (sA : Int) (EA : List Ed) (sB : Int) (EB : List Ed) (f : Int → Int) : Prop where
 zero : f 0 = 0
 rng : ∀ v, 0 ≤ v → v < sA → 0 ≤ f v ∧ f v < sB
 inj : ∀ u v, 0 ≤ u → u < sA → 0 ≤ v → v < sA → f u = f v → u = v
 sur : ∀ y, 0 ≤ y → y < sB → ∃ v, 0 ≤ v ∧ v < sA ∧ f v = y
 ed : ∀ u l v, 0 ≤ u → u < sA → 0 ≤ v → v < sA → ((u, l, v) ∈ EA ↔ (f u, l, f v) ∈ EB)
theorem MG.symm {sA sB : Int} {EA EB : List Ed} {f : Int → Int} (h : MG sA EA sB EB f) (hA : 0 < sA) : ∃ g, MG sB EB sA EA g ∧ (∀ v, 0 ≤ v → v < sA → g (f v) = v) ∧ ∀ y, 0 ≤ y → y < sB → f (g y) = y := by
 have hex : ∀ y : Int, ∃ v : Int, 0 ≤ y ∧ y < sB → 0 ≤ v ∧ v < sA ∧ f v = y := fun y => by
  by_cases c : 0 ≤ y ∧ y < sB
  · obtain ⟨v, h1, h2, h3⟩ := h.sur y c.1 c.2
    exact ⟨v, fun _ => ⟨h1, h2, h3⟩⟩
  · exact ⟨0, fun c' => absurd c' c⟩
 obtain ⟨g, hg⟩ := Classical.axiomOfChoice hex; have hgf : ∀ v, 0 ≤ v → v < sA → g (f v) = v := fun v h0 h1 => by
  obtain ⟨a, b, c⟩ := hg (f v) (h.rng v h0 h1); exact h.inj _ _ a b h0 h1 c
 have hfg : ∀ y, 0 ≤ y → y < sB → f (g y) = y := fun y h0 h1 => (hg y ⟨h0, h1⟩).2.2
 refine ⟨g, ⟨?_, fun y h0 h1 => ?_, fun u v a b c d e => ?_, fun v h0 h1 => ?_, fun u l v a b c d => ?_⟩, hgf, hfg⟩
 · have := hgf 0 (by omega) hA
   rw [h.zero] at this; exact this
 · obtain ⟨a, b, _⟩ := hg y ⟨h0, h1⟩; exact ⟨a, b⟩
 · rw [← hfg u a b, ← hfg v c d, e]
 · exact ⟨f v, (h.rng v h0 h1).1, (h.rng v h0 h1).2, hgf v h0 h1⟩
 · obtain ⟨a1, a2, a3⟩ := hg u ⟨a, b⟩
   obtain ⟨c1, c2, c3⟩ := hg v ⟨c, d⟩; rw [h.ed _ l _ a1 a2 c1 c2, a3, c3]
theorem Jr {es : List Ed} {v l y : Int} : fC es v l y ↔ (v, l, y) ∈ es ∨ (y, -l, v) ∈ es := by
 rw [mF]; constructor
 · rintro ⟨⟨a, b, c⟩, he, ⟨h1, h2, h3⟩ | ⟨h1, h2, h3⟩⟩
   · simp only at h1 h2 h3; subst h1 h2 h3; exact .inl he
   · simp only at h1 h2 h3; subst h1 h2 h3; right; simpa using he
 · rintro (he | he)
   · exact ⟨_, he, .inl ⟨rfl, rfl, rfl⟩⟩
   · exact ⟨_, he, .inr ⟨rfl, by simp, rfl⟩⟩
section
variable {r sA sB : Int} {EA EB : List Ed} {f : Int → Int}
end
end Go.Proofs.YtgnomlcjikfdhaaGreat
namespace Go.Proofs.YtgnomlcjikfdhaaGreat
open Go.RowKit
set_option linter.unusedVariables false
set_option linter.unusedSimpArgs false
set_option maxHeartbeats 3200000 in
theorem jX (w : World) (r s : Int) (v : Value) (es : List Ed) (h : ay w.heap.size w v es) (hs : -9223372036854775808 ≤ s ∧ s ≤ 9223372036854775807) (hl : es.length ≤ 10000000) :
 Calls Tryz.prog 26 #[.agg #[.int .i64 r, .int .i64 s, v]] w (dU w (dL r s es)) := by
 obtain ⟨a, cap, rfl, hnc⟩ := h.form; obtain ⟨n, hn⟩ := ag es.length; rw [← hn] at hl hnc ⊢; rw [← hn] at h; obtain ⟨w1, hw1⟩ := ag (w.alloc (.cells #[.int .i64 r, .int .i64 s, .slice a n cap] 26)); have hb1 : Below w.heap.size w w1 := by rw [hw1]; exact (Below.refl _ _).alloc (nl _) _
 have hs1 : w.heap.size < w1.heap.size := by rw [hw1]; simp
 obtain ⟨g0, g1, g2⟩ := bT hw1; have hco := IW w1 r s (.slice a n cap) es (by have := (h.below hb1).mono hb1.size; exact this) hs (by omega)
 obtain ⟨B, hB⟩ := ag (dL r s es); rw [← hB] at hco ⊢; replace hB := ae hB; replace hn := ae hn; replace h := ae h; replace hw1 := ae hw1; go_enter Tryz.func26, Tryz.ntmps26
 go_wp2_with fail; rw [← hw1.out]; refine hco.mono ?_; rintro e w2 ⟨rfl, hb2⟩; clear hco g0 g1 g2; have hbq := hb1.trans (hb2.mono hb1.size); go_wp2; go_ret; exact ⟨au rfl, hbq⟩
set_option maxHeartbeats 3200000 in
theorem xu (w : World) (r s : Int) (v : Value) (es : List Ed) (h : ay w.heap.size w v es) (hs : -9223372036854775808 ≤ s ∧ s ≤ 9223372036854775807) (hl : es.length ≤ 10000000) :
 Calls Tryz.prog 43 #[.agg #[.int .i64 r, .int .i64 s, v]] w (dU w (ql r s es)) := by
 obtain ⟨a, cap, rfl, hnc⟩ := h.form; obtain ⟨n, hn⟩ := ag es.length; rw [← hn] at hl hnc ⊢; rw [← hn] at h; obtain ⟨w1, hw1⟩ := ag (w.alloc (.cells #[.int .i64 r, .int .i64 s, .slice a n cap] 26)); have hb1 : Below w.heap.size w w1 := by rw [hw1]; exact (Below.refl _ _).alloc (nl _) _
 have hs1 : w.heap.size < w1.heap.size := by rw [hw1]; simp
 obtain ⟨g0, g1, g2⟩ := bT hw1; have hco := jX w1 r s (.slice a n cap) es ((h.below hb1).mono hb1.size) hs (by omega)
 obtain ⟨B, hB⟩ := ag (dL r s es); rw [← hB] at hco; obtain ⟨F, hF⟩ := ag (ql r s es); rw [← hF]; have hFe : F = (B && decide ((n : Int) = 0)) := by rw [hF, hB, hn]; rfl
 replace hFe := ae hFe; replace hF := ae hF; replace hB := ae hB; replace hn := ae hn; replace h := ae h; replace hw1 := ae hw1; go_enter Tryz.func43, Tryz.ntmps43
 go_wp2_with fail; rw [← hw1.out]; refine hco.mono ?_; rintro e w2 ⟨rfl, hb2⟩; clear hco; have p0 := af g0 hb2 hs1; have p1 := af g1 hb2 hs1; have p2 := af g2 hb2 hs1; have hbq := hb1.trans (hb2.mono hb1.size); clear g0 g1 g2
 cases B with
 | false =>
  have hfin : Hid (F = false) := ae hFe.out; replace hFe := ae hFe; replace hB := ae hB; go_wp2; go_ret; exact ⟨au hfin.out.symm, hbq⟩
 | true =>
  replace hB := ae hB; by_cases e : (n : Int) = 0
  · have hfin : Hid (F = true) := ae (by rw [hFe.out, decide_eq_true e]; rfl)
    have he : ((n : Int) == 0) = true := by rw [beq_iff_eq]; exact e
    replace e := ae e; replace hFe := ae hFe; go_wp2; go_ret; exact ⟨au hfin.out.symm, hbq⟩
  · have hfin : Hid (F = false) := ae (by rw [hFe.out, decide_eq_false e]; rfl)
    have he : ((n : Int) == 0) = false := by rw [beq_eq_false_iff_ne]; exact e
    replace e := ae e; replace hFe := ae hFe; go_wp2; go_ret; exact ⟨au hfin.out.symm, hbq⟩
set_option maxHeartbeats 3200000 in
theorem vg (w : World) (r s : Int) (v : Value) (es : List Ed) (h : ay w.heap.size w v es) (hs : -9223372036854775808 ≤ s ∧ s ≤ 9223372036854775807) (hl : es.length ≤ 10000000) :
 Calls Tryz.prog 44 #[.agg #[.int .i64 r, .int .i64 s, v]] w (dU w (oW r s es)) := by
 obtain ⟨a, cap, rfl, hnc⟩ := h.form; obtain ⟨n, hn⟩ := ag es.length; rw [← hn] at hl hnc ⊢; rw [← hn] at h; obtain ⟨w1, hw1⟩ := ag (w.alloc (.cells #[.int .i64 r, .int .i64 s, .slice a n cap] 26)); have hb1 : Below w.heap.size w w1 := by rw [hw1]; exact (Below.refl _ _).alloc (nl _) _
 have hs1 : w.heap.size < w1.heap.size := by rw [hw1]; simp
 obtain ⟨g0, g1, g2⟩ := bT hw1; have hco := jX w1 r s (.slice a n cap) es ((h.below hb1).mono hb1.size) hs (by omega)
 obtain ⟨B, hB⟩ := ag (dL r s es); rw [← hB] at hco; obtain ⟨F, hF⟩ := ag (oW r s es); rw [← hF]; have hFe : F = (B && decide (s = 1) && decide ((n : Int) = r)) := by rw [hF, hB, hn]; rfl
 replace hFe := ae hFe; replace hF := ae hF; replace hB := ae hB; replace hn := ae hn; replace h := ae h; replace hw1 := ae hw1; go_enter Tryz.func44, Tryz.ntmps44
 go_wp2_with fail; rw [← hw1.out]; refine hco.mono ?_; rintro e w2 ⟨rfl, hb2⟩; clear hco; have p0 := af g0 hb2 hs1; have p1 := af g1 hb2 hs1; have p2 := af g2 hb2 hs1; have hbq := hb1.trans (hb2.mono hb1.size); clear g0 g1 g2
 cases B with
 | false =>
  have hfin : Hid (F = false) := ae hFe.out; replace hFe := ae hFe; replace hB := ae hB; go_wp2; go_ret; exact ⟨au hfin.out.symm, hbq⟩
 | true =>
  replace hB := ae hB; by_cases e1 : s = 1
  · have he1 : (s == 1) = true := by rw [beq_iff_eq]; exact e1
    by_cases e : (n : Int) = r
    · have hfin : Hid (F = true) := ae (by rw [hFe.out, decide_eq_true e, decide_eq_true e1]; rfl)
      have he : ((n : Int) == r) = true := by rw [beq_iff_eq]; exact e
      replace e := ae e; replace e1 := ae e1; replace hFe := ae hFe; go_wp2; go_ret; exact ⟨au hfin.out.symm, hbq⟩
    · have hfin : Hid (F = false) := ae (by rw [hFe.out, decide_eq_false e, decide_eq_true e1]; rfl)
      have he : ((n : Int) == r) = false := by rw [beq_eq_false_iff_ne]; exact e
      replace e := ae e; replace e1 := ae e1; replace hFe := ae hFe; go_wp2; go_ret; exact ⟨au hfin.out.symm, hbq⟩
  · have hfin : Hid (F = false) := ae (by rw [hFe.out, decide_eq_false e1]; rfl)
    have he1 : (s == 1) = false := by rw [beq_eq_false_iff_ne]; exact e1
    replace e1 := ae e1; replace hFe := ae hFe; go_wp2; go_ret; exact ⟨au hfin.out.symm, hbq⟩
end Go.Proofs.YtgnomlcjikfdhaaGreat
