import Derived.Deep.LoopGhost
import Derived.Deep.Cut
import Derived.Test.YtgnomlcjikfdhaaGreatJ19Tr
import Derived.Test.YtgnomlcjikfdhaaGreatJ20Tr
import Derived.Test.YtgnomlcjikfdhaaGreatJ17Tr
import Derived.Test.YtgnomlcjikfdhaaGreatJ15Tr
import Derived.Test.YtgnomlcjikfdhaaGreatJ11Tr
namespace Go.Proofs.YtgnomlcjikfdhaaGreat
open Go.RowKit
set_option linter.unusedVariables false
set_option linter.unusedSimpArgs false
def OW2 (w : World) (base : Nat) (vo : Value) (O : List Int) (vn : Value) (N : List Int) : Prop :=
 OwnsI w base vo O ∧ OwnsI w base vn N ∧ ∀ k, vo.ownBlock = some k → vn.ownBlock ≠ some k
theorem OW2.fst {w w' : World} {base : Nat} {vo vo' vn : Value} {O N : List Int} {z : Int} (h : OW2 w base vo O vn N) (ho : OwnsI w' base vo' (O ++ [z]))
 (hg : (w.alloc (.cells #[.int .i64 z] 3)).grownBy w' vo.ownBlock) (hv : vo'.ownBlock = vo.ownBlock ∨ vo'.ownBlock = some (w.heap.size + 1)) : OW2 w' base vo' (O ++ [z]) vn N := by
 have hlt := World.ownsRow.lt h.2.1
 have hb := (Below.refl w.heap.size w).alloc (Nat.le_refl _) (.cells #[.int .i64 z] 3)
 refine ⟨ho, ownI_other h.2.1 (fun k hk => ?_), fun k hk hn => ?_⟩
 · have hkl := (hlt k hk).2
   rw [hg.block k (by simp; omega) (fun e => h.2.2 k e.symm hk)]
   exact hb.block k hkl
 · rcases hv with e | e
   · exact h.2.2 k (e ▸ hk) hn
   · rw [e] at hk
     have h1 : w.heap.size + 1 = k := by simpa using hk
     have := (hlt k hn).2
     omega
theorem OW2.symm {w : World} {base : Nat} {vo vn : Value} {O N : List Int} (h : OW2 w base vo O vn N) : OW2 w base vn N vo O := ⟨h.2.1, h.1, fun k hk hn => h.2.2 k hn hk⟩
theorem OW2.snd {w w' : World} {base : Nat} {vo vn vn' : Value} {O N : List Int} {z : Int} (h : OW2 w base vo O vn N) (ho : OwnsI w' base vn' (N ++ [z]))
 (hg : (w.alloc (.cells #[.int .i64 z] 3)).grownBy w' vn.ownBlock) (hv : vn'.ownBlock = vn.ownBlock ∨ vn'.ownBlock = some (w.heap.size + 1)) : OW2 w' base vo O vn' (N ++ [z]) := (h.symm.fst ho hg hv).symm
def TrMem (w : World) (X base : Nat) (r : Int) (x : TrSt) (u : Value) : Prop :=
 ∃ (ac : Option Addr) (cc glo ghi flo fhi : Nat), w.heap[X]? = some (.cells #[.int .i64 r, .int .i64 x.s, .slice ac x.es.length cc] 26 (0, 0)) ∧
  RowS 36 3 w glo ghi (.slice ac x.es.length cc) x.es.length (flatE x.es) ∧ RowI w flo fhi u x.l ∧
  (base ≤ glo ∧ glo ≤ ghi ∧ ghi ≤ w.heap.size ∧ base ≤ flo ∧ flo ≤ fhi ∧ fhi ≤ w.heap.size ∧ (ghi ≤ flo ∨ fhi ≤ glo) ∧ base ≤ X ∧ X < w.heap.size ∧ (ghi ≤ X ∨ X < glo) ∧ X < flo)
theorem TrMem.below {w w' : World} {X base : Nat} {r : Int} {x : TrSt} {u : Value} (h : TrMem w X base r x u) (hb : Below w.heap.size w w') : TrMem w' X base r x u := by
 obtain ⟨ac, cc, glo, ghi, flo, fhi, h1, h2, h3, h4⟩ := h
 have := hb.size
 exact ⟨ac, cc, glo, ghi, flo, fhi, (hb.block X (by omega)).trans h1, h2.below hb (by omega), h3.below hb (by omega), by omega⟩
end Go.Proofs.YtgnomlcjikfdhaaGreat
namespace Go.Proofs.YtgnomlcjikfdhaaGreat
open Go.RowKit
set_option linter.unusedVariables false
set_option linter.unusedSimpArgs false
theorem fa_gr {r s : Int} {es : List Ed} (hg : isGr r s es = true) : isGr r (faS r s es) (faE r s es) = true := by
 have h := fa_or hg 40
 unfold faS faE
 rw [h]
 exact or_gr hg 40
theorem fa_len (r s : Int) (es : List Ed) : (faE r s es).length ≤ es.length := by
 rw [(fa_fo r s es).2.1]; exact foE_length r s es []
end Go.Proofs.YtgnomlcjikfdhaaGreat
namespace Go.Proofs.YtgnomlcjikfdhaaGreat
open Go.RowKit
set_option linter.unusedVariables false
set_option linter.unusedSimpArgs false
set_option maxHeartbeats 6400000 in
set_option maxRecDepth 100000 in
theorem g5_in {B g : Nat} {a : Option Addr} {len cap : Nat} {w : World} (h : Dr B g a len cap w) :
 Calls Tryz.prog 45 #[.pointer (some ⟨g, 0, none⟩)] w (GrIn Gr0 B g a len cap w) := by
 have hlt := h.lt
 obtain ⟨w1, hw1⟩ := exq (w.alloc (.cells #[.int .i64 0, .int .i64 0, .slice none 0 0] 26))
 have hd1 := h.alloc (.cells #[.int .i64 0, .int .i64 0, .slice none 0 0] 26)
 have hk1 := heap_alloc_new w (.cells #[.int .i64 0, .int .i64 0, .slice none 0 0] 26)
 rw [← hw1] at hd1 hk1
 have hs1 : w1.heap.size = w.heap.size + 1 := by rw [hw1]; simp
 have hg1 : w.grownBy w1 (some g) := by rw [hw1]; exact World.grownBy_alloc w _ (some g)
 have hww := hidI hw1.symm
 have fin : ∀ (W : World) (lo hi : Nat) (r' s' : Int) (av : Option Addr) (m c : Nat) (es' : List Ed), m = es'.length → Gr0 r' s' es' → RowS 36 3 W lo hi (.slice av m c) m (flatE es') → w1.heap.size ≤ lo → hi ≤ W.heap.size → w.grownBy W (some g) → Dr B g a len cap W →
  GrIn Gr0 B g a len cap w (.returned (.agg #[.int .i64 r', .int .i64 s', .slice av m c])) (((W.setCell ⟨w.heap.size, 0, none⟩ (.int .i64 r')).setCell ⟨w.heap.size, 1, none⟩ (.int .i64 s')).setCell ⟨w.heap.size, 2, none⟩ (.slice av m c)) := by
  intro W lo hi r' s' av m c es' hm hP hrw hlo hhi hgW hdW
  subst hm
  refine ⟨r', s', av, c, es', hP, rfl, (hrw.set3_ (.inl (by omega))).wide (by omega) (by rw [size_set3]; exact hhi), grown_set3 hgW (Nat.le_refl _), hdW.over (below_set3 (Below.refl w.heap.size W) (Nat.le_refl _)) hlt⟩
 replace fin := hidI fin
 replace hw1 := hidI hw1
 replace hk1 := hidI hk1
 replace hg1 := hidI hg1
 have hon := once_in hd1 4 4 rfl (by omega) (by omega)
 replace hd1 := hidI hd1
 go_enter Tryz.func45, Tryz.ntmps45
 go_upto_region 1 with fail
 rw [hww.out]
 go_wp2_with fail
 refine hon.mono ?_
 rintro e w2 ⟨q, rfl, hg2, hd2⟩
 clear hon
 have hsz2 := hg2.size
 have hR2 := hidI ((kept_block hg2 (by omega) (by omega)).trans hk1.out)
 have hg02 := hidI (grown_trans hg1.out hg2)
 cases q with
 | true =>
  have ha := any4_in hd2
  replace hd2 := hidI hd2
  replace hg2 := hidI hg2
  go_wp2_with fail
  refine ha.mono ?_
  rintro e w3 ⟨r, s, x, c, es, hP, rfl, hrow3, hg3, hd3⟩
  clear ha
  have hsz3 := hg3.size
  have hRz := (kept_block hg3 (by omega) (by omega)).trans hR2.out
  obtain ⟨n, hm⟩ := exq es.length
  rw [← hm] at hrow3 ⊢
  obtain ⟨y0, y1, y2⟩ := cell3 hRz
  have f2 := fun j => frozen_of_row w3 w.heap.size j _ _ hRz
  simp at y0 y1 y2
  have hfz := fin.out w3 w2.heap.size w3.heap.size r s x n c es hm hP hrow3 (by omega) (Nat.le_refl _) (grown_trans hg02.out hg3) hd3
  have hset := set3 hRz (.int .i64 r) (.int .i64 s) (.slice x n c)
  replace hfz := hidI hfz
  replace hset := hidI hset
  replace hRz := hidI hRz
  replace hm := hidI hm
  replace hP := hidI hP
  replace hrow3 := hidI hrow3
  replace hg3 := hidI hg3
  replace hd3 := hidI hd3
  go_wp2
  (try simp only [Exit.inBlock, Exit.then])
  refine ret_cell (cs := #[.int .i64 r, .int .i64 s, .slice x n c]) rfl (g := w.heap.size) rfl (by exact hset.out) Tryz.underlying26 sizeGraph ?_
  exact hfz.out
 | false =>
  have ha := graph_in hd2
  replace hd2 := hidI hd2
  replace hg2 := hidI hg2
  go_wp2_with fail
  refine ha.mono ?_
  rintro e w3 ⟨r, s, x, c, es, ⟨hr1, hr3, hs1a, hs5a, hisg, hl8⟩, rfl, hrow3, hg3, hd3⟩
  clear ha
  have hsz3 := hg3.size
  have hR3 := (kept_block hg3 (by omega) (by omega)).trans hR2.out
  have hfa := specAll w3 r s (.slice x es.length c) es hrow3.read (by omega) (by omega)
  have hfl := fa_len r s es
  have hfg := isGr_lim (fa_gr hisg)
  obtain ⟨n, hm⟩ := exq es.length
  obtain ⟨FS, hFS⟩ := exq (faS r s es)
  obtain ⟨FE, hFE⟩ := exq (faE r s es)
  obtain ⟨FL, hFL⟩ := exq (faL r s es)
  rw [← hFS, ← hFE, ← hFL] at hfa
  rw [← hFS, ← hFE] at hfg
  rw [← hFE] at hfl
  replace hFL := hidI hFL
  rw [← hm] at hfa hfl hl8 ⊢
  replace hm := hidI hm
  replace hFS := hidI hFS
  replace hFE := hidI hFE
  replace hrow3 := hidI hrow3
  replace hisg := hidI hisg
  have hg03 := hidI (grown_trans hg02.out hg3)
  replace hg3 := hidI hg3
  replace hd3 := hidI hd3
  replace hR3 := hidI hR3
  go_wp2_with fail
  refine hfa.mono ?_
  rintro e w4 ⟨fa, fc, fv, glo, ghi, flo, fhi, rfl, hdj, hrow4, hst4, hb4⟩
  clear hfa
  have hsz4 := hb4.size
  obtain ⟨q, hq⟩ := exq FE.length
  rw [← hq] at hrow4 ⊢
  obtain ⟨X, hX⟩ := exq w4.heap.size
  obtain ⟨w5, hw5⟩ := exq (w4.alloc (.cells #[.int .i64 0, .int .i64 0, .slice none 0 0] 26))
  have hX0 : w5.heap[X]? = some (.cells #[.int .i64 0, .int .i64 0, .slice none 0 0] 26 (0, 0)) := by rw [hw5, hX]; exact heap_alloc_new _ _
  have hbw5 : Below w4.heap.size w4 w5 := by rw [hw5]; exact (Below.refl _ _).alloc (Nat.le_refl _) _
  obtain ⟨w6, hw6⟩ := exq (((w5.setCell ⟨X, 0, none⟩ (.int .i64 r)).setCell ⟨X, 1, none⟩ (.int .i64 FS)).setCell ⟨X, 2, none⟩ (.slice fa q fc))
  have hXC : w6.heap[X]? = some (.cells #[.int .i64 r, .int .i64 FS, .slice fa q fc] 26 (0, 0)) := by rw [hw6]; exact set3 hX0 _ _ _
  have hbw6 : Below w4.heap.size w4 w6 := by rw [hw6, hX]; exact below_set3 hbw5 (Nat.le_refl _)
  have hszC := hbw6.size
  have hsw6 : X < w6.heap.size := (Array.getElem?_eq_some_iff.1 hXC).1
  obtain ⟨t0, t1, t2⟩ := cell3 hX0
  have ft := fun j => frozen_of_row w5 X j _ _ hX0
  obtain ⟨x0, x1, x2⟩ := cell3 hXC
  simp at t0 t1 t2 x0 x1 x2
  have hBw := hidI hw5.symm
  have hCw := hidI hw6.symm
  have hXw := hidI hX.symm
  replace hw5 := hidI hw5
  replace hw6 := hidI hw6
  replace hX0 := hidI hX0
  replace hX := hidI hX
  have hb36 := hb4.trans (hbw6.mono hsz4)
  have hRz := (hb36.block _ (by omega)).trans hR3.out
  have hrz : RowS 36 3 w6 glo ghi (.slice fa q fc) q (flatE FE) := hrow4.below hbw6 hdj.2.2.1
  have hgz := grown_below hg03.out (hb36.mono (by omega))
  have hdz := hd3.out.over hb36 (by have := hd3.out.lt; omega)
  obtain ⟨y0, y1, y2⟩ := cell3 hRz
  have f2 := fun j => frozen_of_row w6 w.heap.size j _ _ hRz
  simp at y0 y1 y2
  have hfz := fin.out w6 glo ghi r FS fa q fc FE hq ⟨by omega, by omega, by omega⟩ hrz (by omega) (by omega) hgz hdz
  have hset := set3 hRz (.int .i64 r) (.int .i64 FS) (.slice fa q fc)
  replace hfz := hidI hfz
  replace hset := hidI hset
  replace hRz := hidI hRz
  replace hq := hidI hq
  replace hrow4 := hidI hrow4
  replace hst4 := hidI hst4
  replace hdj := hidI hdj
  replace hb4 := hidI hb4
  replace hb36 := hidI hb36
  replace hrz := hidI hrz
  replace hgz := hidI hgz
  replace hdz := hidI hdz
  replace hXC := hidI hXC
  replace hbw6 := hidI hbw6
  go_upto_region 4 with (first | rw [hBw.out] | rw [hXw.out] | fail)
  try rw [hXw.out]
  rw [hCw.out]
  clear t0 t1 t2 ft
  go_wp2
  (try simp only [Exit.inBlock, Exit.then])
  refine ret_cell (cs := #[.int .i64 r, .int .i64 FS, .slice fa q fc]) rfl (g := w.heap.size) rfl (by exact hset.out) Tryz.underlying26 sizeGraph ?_
  exact hfz.out
end Go.Proofs.YtgnomlcjikfdhaaGreat
