import Derived.Test.YtlgieefojcgodaaGreatDH
import Derived.Test.YtlgieefojcgodaaGreatUK
import Derived.Deep.Cut
import Derived.Deep.LoopGhost
import Derived.Test.YtlgieefojcgodaaGreatRE
import Derived.Test.YtlgieefojcgodaaGreatRH
import Derived.Test.YtlgieefojcgodaaGreatTQ
import Derived.Test.YtlgieefojcgodaaGreatRL
namespace Go.Proofs.YtlgieefojcgodaaGreat
open Go.RowKit
set_option linter.unusedVariables false
set_option linter.unusedSimpArgs false
set_option maxHeartbeats 6400000 in
set_option maxRecDepth 100000 in
theorem g5_in {B g : Nat} {a : Option Addr} {len cap : Nat} {w : World} (h : Dr B g a len cap w) :
 Calls Tryz.prog 51 #[.pointer (some ⟨g, 0, none⟩)] w (GrIn Gr0 B g a len cap w) := by
 have hlt := h.lt
 obtain ⟨w1, hw1⟩ := exq (w.alloc (.cells #[.int .i64 0, .int .i64 0, .slice none 0 0] 26))
 have hd1 := h.alloc (.cells #[.int .i64 0, .int .i64 0, .slice none 0 0] 26)
 have hk1 := heap_alloc_new w (.cells #[.int .i64 0, .int .i64 0, .slice none 0 0] 26)
 rw [← hw1] at hd1 hk1
 have hs1 : w1.heap.size = w.heap.size + 1 := by rw [hw1]; simp
 have hg1 : w.grownBy w1 (some g) := by rw [hw1]; exact World.grownBy_alloc w _ (some g)
 have hww := hidI hw1.symm
 have fin : ∀ (W : World) (lo hi : Nat) (r' s' : Int) (av : Option Addr) (m c : Nat) (es' : List Ed), m = es'.length → Gr0 r' s' es' → RowS 47 3 W lo hi (.slice av m c) m (flatE es') → w1.heap.size ≤ lo → hi ≤ W.heap.size → w.grownBy W (some g) → Dr B g a len cap W →
  GrIn Gr0 B g a len cap w (.returned (.agg #[.int .i64 r', .int .i64 s', .slice av m c])) (((W.setCell ⟨w.heap.size, 0, none⟩ (.int .i64 r')).setCell ⟨w.heap.size, 1, none⟩ (.int .i64 s')).setCell ⟨w.heap.size, 2, none⟩ (.slice av m c)) := by
  intro W lo hi r' s' av m c es' hm hP hrw hlo hhi hgW hdW
  subst hm
  refine ⟨r', s', av, c, es', hP, rfl, (hrw.set3_ (.inl (by omega))).wide (by omega) (by rw [size_set3]; exact hhi), grown_set3 hgW (Nat.le_refl _), hdW.over (below_set3 (Below.refl w.heap.size W) (Nat.le_refl _)) hlt⟩
 replace fin := hidI fin
 replace hw1 := hidI hw1
 replace hk1 := hidI hk1
 replace hg1 := hidI hg1
 have hon := once_in hd1 4 4 rfl (by omega) (by omega)
 replace hd1 := hidI hd1
 go_enter Tryz.func51, Tryz.ntmps51
 go_upto_region 1 with fail
 rw [hww.out]
 go_wp2_with fail
 refine hon.mono ?_
 rintro e w2 ⟨q, rfl, hg2, hd2⟩
 clear hon
 have hsz2 := hg2.size
 have hR2 := hidI ((kept_block hg2 (by omega) (by omega)).trans hk1.out)
 have hg02 := hidI (grown_trans hg1.out hg2)
 cases q with
 | true =>
  have ha := any4_in hd2
  replace hd2 := hidI hd2
  replace hg2 := hidI hg2
  go_wp2_with fail
  refine ha.mono ?_
  rintro e w3 ⟨r, s, x, c, es, hP, rfl, hrow3, hg3, hd3⟩
  clear ha
  have hsz3 := hg3.size
  have hRz := (kept_block hg3 (by omega) (by omega)).trans hR2.out
  obtain ⟨n, hm⟩ := exq es.length
  rw [← hm] at hrow3 ⊢
  obtain ⟨y0, y1, y2⟩ := cell3 hRz
  have f2 := fun j => frozen_of_row w3 w.heap.size j _ _ hRz
  simp at y0 y1 y2
  have hfz := fin.out w3 w2.heap.size w3.heap.size r s x n c es hm hP hrow3 (by omega) (Nat.le_refl _) (grown_trans hg02.out hg3) hd3
  have hset := set3 hRz (.int .i64 r) (.int .i64 s) (.slice x n c)
  replace hfz := hidI hfz
  replace hset := hidI hset
  replace hRz := hidI hRz
  replace hm := hidI hm
  replace hP := hidI hP
  replace hrow3 := hidI hrow3
  replace hg3 := hidI hg3
  replace hd3 := hidI hd3
  go_wp2
  (try simp only [Exit.inBlock, Exit.then])
  refine ret_cell (cs := #[.int .i64 r, .int .i64 s, .slice x n c]) rfl (g := w.heap.size) rfl (by exact hset.out) Tryz.underlying26 sizeGraph ?_
  exact hfz.out
 | false =>
  have ha := graph_in hd2
  replace hd2 := hidI hd2
  replace hg2 := hidI hg2
  go_wp2_with fail
  refine ha.mono ?_
  rintro e w3 ⟨r, s, x, c, es, ⟨hr1, hr3, hs1a, hs5a, hisg, hl8⟩, rfl, hrow3, hg3, hd3⟩
  clear ha
  have hsz3 := hg3.size
  have hR3 := (kept_block hg3 (by omega) (by omega)).trans hR2.out
  have hfa := specAll w3 r s (.slice x es.length c) es hrow3.read (by omega) (by omega)
  have hfl := fa_len r s es
  have hfg := isGr_lim (fa_gr hisg)
  obtain ⟨n, hm⟩ := exq es.length
  obtain ⟨FS, hFS⟩ := exq (faS r s es)
  obtain ⟨FE, hFE⟩ := exq (faE r s es)
  obtain ⟨FL, hFL⟩ := exq (faL r s es)
  rw [← hFS, ← hFE, ← hFL] at hfa
  rw [← hFS, ← hFE] at hfg
  rw [← hFE] at hfl
  replace hFL := hidI hFL
  rw [← hm] at hfa hfl hl8 ⊢
  replace hm := hidI hm
  replace hFS := hidI hFS
  replace hFE := hidI hFE
  replace hrow3 := hidI hrow3
  replace hisg := hidI hisg
  have hg03 := hidI (grown_trans hg02.out hg3)
  replace hg3 := hidI hg3
  replace hd3 := hidI hd3
  replace hR3 := hidI hR3
  go_wp2_with fail
  refine hfa.mono ?_
  rintro e w4 ⟨fa, fc, fv, glo, ghi, flo, fhi, rfl, hdj, hrow4, hst4, hb4⟩
  clear hfa
  have hsz4 := hb4.size
  obtain ⟨q, hq⟩ := exq FE.length
  rw [← hq] at hrow4 ⊢
  obtain ⟨X, hX⟩ := exq w4.heap.size
  obtain ⟨w5, hw5⟩ := exq (w4.alloc (.cells #[.int .i64 0, .int .i64 0, .slice none 0 0] 26))
  have hX0 : w5.heap[X]? = some (.cells #[.int .i64 0, .int .i64 0, .slice none 0 0] 26 (0, 0)) := by rw [hw5, hX]; exact heap_alloc_new _ _
  have hbw5 : Below w4.heap.size w4 w5 := by rw [hw5]; exact (Below.refl _ _).alloc (Nat.le_refl _) _
  obtain ⟨w6, hw6⟩ := exq (((w5.setCell ⟨X, 0, none⟩ (.int .i64 r)).setCell ⟨X, 1, none⟩ (.int .i64 FS)).setCell ⟨X, 2, none⟩ (.slice fa q fc))
  have hXC : w6.heap[X]? = some (.cells #[.int .i64 r, .int .i64 FS, .slice fa q fc] 26 (0, 0)) := by rw [hw6]; exact set3 hX0 _ _ _
  have hbw6 : Below w4.heap.size w4 w6 := by rw [hw6, hX]; exact below_set3 hbw5 (Nat.le_refl _)
  have hszC := hbw6.size
  have hsw6 : X < w6.heap.size := (Array.getElem?_eq_some_iff.1 hXC).1
  obtain ⟨t0, t1, t2⟩ := cell3 hX0
  have ft := fun j => frozen_of_row w5 X j _ _ hX0
  obtain ⟨x0, x1, x2⟩ := cell3 hXC
  simp at t0 t1 t2 x0 x1 x2
  have hBw := hidI hw5.symm
  have hCw := hidI hw6.symm
  have hXw := hidI hX.symm
  replace hw5 := hidI hw5
  replace hw6 := hidI hw6
  replace hX0 := hidI hX0
  replace hX := hidI hX
  have hb36 := hb4.trans (hbw6.mono hsz4)
  have hRz := (hb36.block _ (by omega)).trans hR3.out
  have hrz : RowS 47 3 w6 glo ghi (.slice fa q fc) q (flatE FE) := hrow4.below hbw6 hdj.2.2.1
  have hgz := grown_below hg03.out (hb36.mono (by omega))
  have hdz := hd3.out.over hb36 (by have := hd3.out.lt; omega)
  obtain ⟨y0, y1, y2⟩ := cell3 hRz
  have f2 := fun j => frozen_of_row w6 w.heap.size j _ _ hRz
  simp at y0 y1 y2
  have hfz := fin.out w6 glo ghi r FS fa q fc FE hq ⟨by omega, by omega, by omega⟩ hrz (by omega) (by omega) hgz hdz
  have hset := set3 hRz (.int .i64 r) (.int .i64 FS) (.slice fa q fc)
  replace hfz := hidI hfz
  replace hset := hidI hset
  replace hRz := hidI hRz
  replace hq := hidI hq
  replace hrow4 := hidI hrow4
  replace hst4 := hidI hst4
  replace hdj := hidI hdj
  replace hb4 := hidI hb4
  replace hb36 := hidI hb36
  replace hrz := hidI hrz
  replace hgz := hidI hgz
  replace hdz := hidI hdz
  replace hXC := hidI hXC
  replace hbw6 := hidI hbw6
  go_upto_region 4 with (first | rw [hBw.out] | rw [hXw.out] | fail)
  try rw [hXw.out]
  rw [hCw.out]
  clear t0 t1 t2 ft
  go_wp2
  (try simp only [Exit.inBlock, Exit.then])
  refine ret_cell (cs := #[.int .i64 r, .int .i64 FS, .slice fa q fc]) rfl (g := w.heap.size) rfl (by exact hset.out) Tryz.underlying26 sizeGraph ?_
  exact hfz.out
def WsIn (P : List (List Int) → Prop) (B g : Nat) (a : Option Addr) (len cap : Nat) (w : World) (e : Ending) (w' : World) : Prop :=
 ∃ v zss, P zss ∧ e = .returned v ∧ ReadSS w'.heap.size w' v zss ∧ w.grownBy w' (some g) ∧ Dr B g a len cap w'
def WSt (w : World) (base : Nat) (v : Value) (us : List Value) (zss : List (List Int)) : Prop :=
 OwnsW w base v us ∧ us.length = zss.length ∧ ∀ i, i < us.length → ∃ lo hi, RowI w lo hi (us.getD i undef) (zss.getD i []) ∧ base ≤ lo ∧ hi ≤ w.heap.size ∧ ∀ k, v.ownBlock = some k → k < lo ∨ hi ≤ k
theorem WSt.kept {w w' : World} {base g : Nat} {v : Value} {us : List Value} {zss : List (List Int)} (h : WSt w base v us zss) (hg : w.grownBy w' (some g)) (hlt : g < base) : WSt w' base v us zss := by
 obtain ⟨h1, h2, h3⟩ := h
 have hl := World.ownsRow.lt h1
 refine ⟨OwnsW.other h1 (fun k hk => hg.block k (hl k hk).2 (fun e => by cases e; have := (hl g hk).1; omega)), h2, fun i hi => ?_⟩
 obtain ⟨lo, hi2, q1, q2, q3, q4⟩ := h3 i hi
 exact ⟨lo, hi2, q1.keep (fun k a1 a2 => hg.block k (by omega) (fun e => by cases e; omega)), q2, Nat.le_trans q3 hg.size, q4⟩
theorem WSt.push {w0 w w' : World} {base : Nat} {v v' u : Value} {us : List Value} {zss : List (List Int)} {zs : List Int} {X : Obj} (h : WSt w base v us zss) (hv : ∀ k, v.ownBlock = some k → k < w0.heap.size) (hw0 : base ≤ w0.heap.size) (hu : RowI w w0.heap.size w.heap.size u zs)
 (ho : OwnsW w' base v' (us ++ [u])) (hg : (w.alloc X).grownBy w' v.ownBlock) (hloc : v'.ownBlock = v.ownBlock ∨ v'.ownBlock = some (w.heap.size + 1)) : WSt w' base v' (us ++ [u]) (zss ++ [zs]) := by
 obtain ⟨h1, h2, h3⟩ := h
 have hsz := hg.size
 simp at hsz
 have hblk : ∀ k, k < w.heap.size → v.ownBlock ≠ some k → w'.heap[k]? = w.heap[k]? := fun k hk hne => by
  rw [hg.block k (by simp; omega) (fun e => hne e.symm)]; exact heap_alloc_old _ _ hk
 have hlast : ∀ lo hi, (∀ k, v.ownBlock = some k → k < lo ∨ hi ≤ k) → hi ≤ w.heap.size → ∀ k, v'.ownBlock = some k → k < lo ∨ hi ≤ k := fun lo hi h5 h6 k hk => by
  rcases hloc with e | e
  · exact h5 k (e ▸ hk)
  · rw [e] at hk; right; have : w.heap.size + 1 = k := by simpa using hk
    omega
 refine ⟨ho, by simp [h2], fun i hi => ?_⟩
 by_cases hil : i < us.length
 · obtain ⟨lo, hi2, q1, q2, q3, q4⟩ := h3 i hil
   refine ⟨lo, hi2, ?_, q2, by omega, hlast lo hi2 q4 q3⟩
   have e1 : (us ++ [u]).getD i undef = us.getD i undef := by rw [List.getD_eq_getElem?_getD, List.getElem?_append_left hil, List.getD_eq_getElem?_getD]
   have e2 : (zss ++ [zs]).getD i [] = zss.getD i [] := by rw [List.getD_eq_getElem?_getD, List.getElem?_append_left (by omega), List.getD_eq_getElem?_getD]
   rw [e1, e2]
   exact q1.keep (fun k a1 a2 => hblk k (by omega) (fun e => by rcases q4 k e with c | c <;> omega))
 · have hie : i = us.length := by rw [List.length_append, List.length_singleton] at hi; omega
   subst hie
   have hv2 : ∀ k, v.ownBlock = some k → k < w0.heap.size ∨ w.heap.size ≤ k := fun k hk => .inl (hv k hk)
   refine ⟨w0.heap.size, w.heap.size, ?_, hw0, by omega, hlast _ _ hv2 (Nat.le_refl _)⟩
   have e1 : (us ++ [u]).getD us.length undef = u := by simp
   have e2 : (zss ++ [zs]).getD us.length [] = zs := by rw [h2]; simp
   rw [e1, e2]
   exact hu.keep (fun k a1 a2 => hblk k a2 (fun e => by have := hv k e; omega))
theorem WSt.read {w : World} {base : Nat} {v : Value} {us : List Value} {zss : List (List Int)} (h : WSt w base v us zss) (hl : zss.length ≤ 1000) : ReadSS w.heap.size w v zss := by
 obtain ⟨h1, h2, h3⟩ := h
 have hlt := World.ownsRow.lt h1
 obtain ⟨_, ⟨rfl, h5⟩ | ⟨g, cap, cur, rfl, hg, hh, hc1, hc2, hc3, hc4⟩⟩ := h1
 · have : zss = [] := List.length_eq_zero_iff.1 (by omega)
   subst this
   exact ⟨by simp, none, 0, rfl, ⟨fun _ => rfl, Nat.le_refl _⟩, .inl rfl⟩
 · refine ⟨by omega, _, cap, by rw [h2], ⟨(fun e => by cases e), by omega⟩, .inr ⟨g, 0, rfl, (hlt g rfl).2, fun i hi => ?_⟩⟩
   obtain ⟨lo, hi2, q1, q2, q3, q4⟩ := h3 i (by omega)
   refine ⟨us.getD i undef, ?_, q1.read.mono q3⟩
   have hi' : i < us.length := by omega
   have e1 : (cur.toList.take (us.length * 1))[i]? = us[i]? := by rw [hc4]
   rw [List.getElem?_take, if_pos (by omega), List.getElem?_eq_getElem hi'] at e1
   rw [World.cell?, hh]
   simp only
   rw [Nat.zero_add, ← Array.getElem?_toList, e1, List.getD_eq_getElem?_getD, List.getElem?_eq_getElem hi']; rfl
def Ws3 (zss : List (List Int)) : Prop := zss.length ≤ 3 ∧ ∀ z ∈ zss, z.length ≤ 5
set_option maxHeartbeats 3200000 in
set_option maxRecDepth 100000 in
theorem words6_in {B g : Nat} {a : Option Addr} {len cap : Nat} {w : World} (h : Dr B g a len cap w) (r : Nat) (hr1 : 1 ≤ r) (hr3 : r ≤ 3) :
 Calls Tryz.prog 63 #[.pointer (some ⟨g, 0, none⟩), .int .i64 r] w (WsIn Ws3 B g a len cap w) := by
 have hlt := h.lt
 obtain ⟨w1, hw1⟩ := exq (w.alloc (.cells #[] 28))
 have hd1 : Dr B g a len cap w1 := by rw [hw1]; exact h.alloc _
 have hs1 : w1.heap.size = w.heap.size + 1 := by rw [hw1]; simp
 have hg1 : w.grownBy w1 (some g) := by rw [hw1]; exact World.grownBy_alloc w _ (some g)
 have hst1 : WSt w1 w.heap.size (.slice (some ⟨w.heap.size, 0, none⟩) 0 0) [] [] := by rw [hw1]; exact ⟨OwnsW.lit w, rfl, fun i hi => by simp at hi⟩
 have hbl := below_in hd1 4 4 rfl (by omega) (by omega)
 have hww := hidI hw1.symm
 replace hw1 := hidI hw1
 replace hd1 := hidI hd1
 replace hst1 := hidI hst1
 replace hg1 := hidI hg1
 go_enter Tryz.func63, Tryz.ntmps63
 go_upto_region 2 with fail
 rw [hww.out]
 go_wp2_with fail
 refine hbl.mono ?_
 rintro e w2 ⟨n0, ⟨n1, n2⟩, rfl, hg2, hd2⟩
 obtain ⟨n, rfl⟩ := Int.eq_ofNat_of_zero_le n1
 clear hbl
 have hsz2 := hg2.size
 have hst2 := hidI (hst1.out.kept hg2 hlt)
 have hg02 := hidI (grown_trans hg1.out hg2)
 replace hd2 := hidI hd2
 replace hg2 := hidI hg2
 go_wp2_with fail
 go_loopg [5, 6] n (fun gg u k wr => k = .int .i64 (gg : Nat) ∧ gg ≤ n ∧ Hid (∃ us zss, WSt wr w.heap.size u us zss ∧ zss.length + gg = n ∧ ∀ z ∈ zss, z.length ≤ 5) ∧ Hid (w.grownBy wr (some g)) ∧ Hid (Dr B g a len cap wr))
 case atStart => exact ⟨rfl, Nat.le_refl _, hidI ⟨[], [], hst2.out, by simp, fun z hz => by cases hz⟩, hg02, hd2⟩
 case round =>
  clear hst2
  obtain ⟨rfl, hgn, hst, hgr, hdr⟩ := hrel
  obtain ⟨us, zss, hst3, hzl, hz5⟩ := hst.out
  have hszr := hgr.out.size
  obtain ⟨ua, ucp, rfl⟩ := OwnsW.form hst3.1
  have hvlt : ∀ k, Value.ownBlock (.slice ua us.length ucp) = some k → k < wr.heap.size := fun k hk => (World.ownsRow.lt hst3.1 k hk).2
  obtain ⟨nu, hnu⟩ := exq us.length
  have hnz : nu ≤ 3 := by have := hst3.2.1; omega
  rw [← hnu] at hvlt hst3 ⊢
  replace hz5 := hidI hz5
  replace hvlt := hidI hvlt
  by_cases hg0 : 0 < gk
  · have hgi : (0 : Int) < (gk : Int) := by omega
    have hof := of_in hdr.out r hr1 hr3 5 5 rfl (by omega)
    replace hst3 := hidI hst3
    replace hst := hidI hst
    replace hnu := hidI hnu
    replace hzl := hidI hzl
    go_wp2_with fail
    refine hof.mono ?_
    rintro e w3 ⟨uv, zs, hW, rfl, how3, hg3, hd3⟩
    clear hof
    have hsz3 := hg3.size
    have hzs5 := hW.2.2
    have hrow3 := how3.row (by omega)
    obtain ⟨va, vm, vc, rfl⟩ : ∃ a m c, uv = Value.slice a m c := by
     obtain ⟨_, ⟨h1, _⟩ | ⟨g, cap, cur, h1, _⟩⟩ := how3 <;> exact ⟨_, _, _, h1⟩
    have hst5 := hst3.out.kept hg3 hlt
    have hw3 := grown_trans hgr.out hg3
    have hw3s := hw3.size
    replace hW := hidI hW
    replace how3 := hidI how3
    replace hrow3 := hidI hrow3
    replace hst5 := hidI hst5
    replace hw3 := hidI hw3
    replace hd3 := hidI hd3
    replace hg3 := hidI hg3
    go_wp2_with (at_builtin; go_must (refine wpList_pushW_at rfl _ _ rfl w.heap.size (.slice ua nu ucp) us va vm vc rfl rfl (by exact hst5.out.1) (by have := hnu.out; omega) (by omega) ?_))
    intro v' w4 ho4 hg4 hl4
    have hst6 := hst5.out.push hvlt.out hszr hrow3.out ho4 hg4 hl4
    have hb4 : Below w.heap.size w3 w4 := ((Below.refl w.heap.size w3).alloc (by omega) _).grown hg4 (by simp; omega) (fun k hk => (World.ownsRow.lt hst5.out.1 k hk).1)
    have hw4 := hidI (grown_below hw3.out hb4)
    have hd4 := hidI (hd3.out.over hb4 hlt)
    have hrel' := hidI (show ∃ us zss, WSt w4 w.heap.size v' us zss ∧ zss.length + (gk - 1) = n ∧ ∀ z ∈ zss, z.length ≤ 5 from ⟨_, _, hst6, by have := hzl.out; simp; omega, fun z hz => by
     rcases List.mem_append.1 hz with h1 | h1
     · exact hz5.out z h1
     · rw [List.mem_singleton] at h1; rw [h1]; exact hzs5⟩)
    clear ho4 hg4 hl4 hst6 hb4
    go_wp2
    go_roundg (gk - 1)
    case rel => exact ⟨by go_num, by omega, hrel', hw4, hd4⟩
    case measure => omega
  · obtain rfl : gk = 0 := by omega
    have hfin : WsIn Ws3 B g a len cap w (.returned (.slice ua nu ucp)) wr := ⟨_, zss, ⟨by omega, hz5.out⟩, rfl, hst3.read (by omega), hgr.out, hdr.out⟩
    replace hfin := hidI hfin
    replace hst3 := hidI hst3
    replace hst := hidI hst
    go_wp2
    go_ret
    exact hfin.out
theorem flower_small {r : Int} {zss : List (List Int)} (hr : 1 ≤ r ∧ r ≤ 3) (hz : Ws3 zss) : Gr0 (floR r zss) (floZ r zss) (floE r zss) ∧ totL zss ≤ 15 := by
 have ht : totL zss ≤ 15 := by
  obtain ⟨h1, h2⟩ := hz
  match zss, h1, h2 with
  | [], _, _ => simp [totL, sumN]
  | [x], _, h2 => have := h2 x (by simp); simp [totL, sumN] <;> omega
  | [x, y], _, h2 => have := h2 x (by simp); have := h2 y (by simp); simp [totL, sumN] <;> omega
  | [x, y, z], _, h2 => have := h2 x (by simp); have := h2 y (by simp); have := h2 z (by simp); simp [totL, sumN] <;> omega
 have hl := floL_lim r zss zss.length (Nat.le_refl _)
 rw [List.take_length] at hl
 have hs : sumN ((zss.map List.length).take zss.length) = totL zss := by rw [List.take_of_length_le (by simp)]
 refine ⟨⟨?_, ?_, ?_⟩, ht⟩
 · unfold floR; split <;> omega
 · unfold floZ; split <;> omega
 · unfold floE; split
   · have := hl.2; rw [hs] at this; omega
   · simp
set_option maxHeartbeats 6400000 in
set_option maxRecDepth 100000 in
theorem g7_in {B g : Nat} {a : Option Addr} {len cap : Nat} {w : World} (h : Dr B g a len cap w) :
 Calls Tryz.prog 29 #[.pointer (some ⟨g, 0, none⟩)] w (GrIn Gr0 B g a len cap w) := by
 have hlt := h.lt
 obtain ⟨w1, hw1⟩ := exq (w.alloc (.cells #[.int .i64 0, .int .i64 0, .slice none 0 0] 26))
 have hd1 := h.alloc (.cells #[.int .i64 0, .int .i64 0, .slice none 0 0] 26)
 have hk1 := heap_alloc_new w (.cells #[.int .i64 0, .int .i64 0, .slice none 0 0] 26)
 rw [← hw1] at hd1 hk1
 have hs1 : w1.heap.size = w.heap.size + 1 := by rw [hw1]; simp
 have hg1 : w.grownBy w1 (some g) := by rw [hw1]; exact World.grownBy_alloc w _ (some g)
 have hww := hidI hw1.symm
 have fin : ∀ (W : World) (lo hi : Nat) (r' s' : Int) (av : Option Addr) (m c : Nat) (es' : List Ed), m = es'.length → Gr0 r' s' es' → RowS 47 3 W lo hi (.slice av m c) m (flatE es') → w1.heap.size ≤ lo → hi ≤ W.heap.size → w.grownBy W (some g) → Dr B g a len cap W →
  GrIn Gr0 B g a len cap w (.returned (.agg #[.int .i64 r', .int .i64 s', .slice av m c])) (((W.setCell ⟨w.heap.size, 0, none⟩ (.int .i64 r')).setCell ⟨w.heap.size, 1, none⟩ (.int .i64 s')).setCell ⟨w.heap.size, 2, none⟩ (.slice av m c)) := by
  intro W lo hi r' s' av m c es' hm hP hrw hlo hhi hgW hdW
  subst hm
  refine ⟨r', s', av, c, es', hP, rfl, (hrw.set3_ (.inl (by omega))).wide (by omega) (by rw [size_set3]; exact hhi), grown_set3 hgW (Nat.le_refl _), hdW.over (below_set3 (Below.refl w.heap.size W) (Nat.le_refl _)) hlt⟩
 replace fin := hidI fin
 replace hw1 := hidI hw1
 replace hk1 := hidI hk1
 replace hg1 := hidI hg1
 have hon := below_in hd1 5 5 rfl (by omega) (by omega)
 replace hd1 := hidI hd1
 go_enter Tryz.func29, Tryz.ntmps29
 go_upto_region 1 with fail
 rw [hww.out]
 go_wp2_with fail
 refine hon.mono ?_
 rintro e w2 ⟨k, ⟨ka, kb⟩, rfl, hg2, hd2⟩
 clear hon
 have hsz2 := hg2.size
 have hR2 := hidI ((kept_block hg2 (by omega) (by omega)).trans hk1.out)
 have hg02 := hidI (grown_trans hg1.out hg2)
 by_cases k0 : k = 0
 · subst k0
   have ha := any4_in hd2
   replace hd2 := hidI hd2
   replace hg2 := hidI hg2
   go_wp2_with fail
   refine ha.mono ?_
   rintro e w3 ⟨r, s, x, c, es, hP, rfl, hrow3, hg3, hd3⟩
   clear ha
   have hsz3 := hg3.size
   have hRz := (kept_block hg3 (by omega) (by omega)).trans hR2.out
   obtain ⟨n, hm⟩ := exq es.length
   rw [← hm] at hrow3 ⊢
   obtain ⟨y0, y1, y2⟩ := cell3 hRz
   have f2 := fun j => frozen_of_row w3 w.heap.size j _ _ hRz
   simp at y0 y1 y2
   have hfz := fin.out w3 w2.heap.size w3.heap.size r s x n c es hm hP hrow3 (by omega) (Nat.le_refl _) (grown_trans hg02.out hg3) hd3
   have hset := set3 hRz (.int .i64 r) (.int .i64 s) (.slice x n c)
   replace hfz := hidI hfz
   replace hset := hidI hset
   replace hRz := hidI hRz
   replace hm := hidI hm
   replace hP := hidI hP
   replace hrow3 := hidI hrow3
   replace hg3 := hidI hg3
   replace hd3 := hidI hd3
   go_wp2
   (try simp only [Exit.inBlock, Exit.then])
   refine ret_cell (cs := #[.int .i64 r, .int .i64 s, .slice x n c]) rfl (g := w.heap.size) rfl (by exact hset.out) Tryz.underlying26 sizeGraph ?_
   exact hfz.out
 by_cases k1 : k = 1
 · subst k1
   have ha := graph_in hd2
   replace hd2 := hidI hd2
   replace hg2 := hidI hg2
   go_wp2_with fail
   refine ha.mono ?_
   rintro e w3 ⟨r, s, x, c, es, ⟨hr1, hr3, hs1a, hs5a, hisg, hl8⟩, rfl, hrow3, hg3, hd3⟩
   clear ha
   have hsz3 := hg3.size
   have hRz := (kept_block hg3 (by omega) (by omega)).trans hR2.out
   obtain ⟨n, hm⟩ := exq es.length
   rw [← hm] at hrow3 ⊢
   have hP : Gr0 r s es := ⟨by omega, by omega, by omega⟩
   obtain ⟨y0, y1, y2⟩ := cell3 hRz
   have f2 := fun j => frozen_of_row w3 w.heap.size j _ _ hRz
   simp at y0 y1 y2
   have hfz := fin.out w3 w2.heap.size w3.heap.size r s x n c es hm hP hrow3 (by omega) (Nat.le_refl _) (grown_trans hg02.out hg3) hd3
   have hset := set3 hRz (.int .i64 r) (.int .i64 s) (.slice x n c)
   replace hfz := hidI hfz
   replace hset := hidI hset
   replace hRz := hidI hRz
   replace hm := hidI hm
   replace hP := hidI hP
   replace hrow3 := hidI hrow3
   replace hg3 := hidI hg3
   replace hd3 := hidI hd3
   replace hisg := hidI hisg
   go_wp2
   (try simp only [Exit.inBlock, Exit.then])
   refine ret_cell (cs := #[.int .i64 r, .int .i64 s, .slice x n c]) rfl (g := w.heap.size) rfl (by exact hset.out) Tryz.underlying26 sizeGraph ?_
   exact hfz.out
 have hne0 : (k == 0) = false := by rw [beq_eq_false_iff_ne]; exact k0
 have hne1 : (k == 1) = false := by rw [beq_eq_false_iff_ne]; exact k1
 have hpk := pick_in (fun z => 1 ≤ z ∧ z ≤ 3) (hd2.alloc (.cells #[.int .i64 1, .int .i64 2, .int .i64 2, .int .i64 2, .int .i64 3] 3)) w2.heap.size 5 (by omega) (by omega) (by have := hd2.lt; omega) (pints_lit _ w2 [1, 2, 2, 2, 3] _ rfl (by decide))
 have hg2p := hidI (grown_trans hg02.out (World.grownBy_alloc w2 (.cells #[.int .i64 1, .int .i64 2, .int .i64 2, .int .i64 2, .int .i64 3] 3) (some g)))
 have hR2p := hidI ((heap_alloc_old w2 (.cells #[.int .i64 1, .int .i64 2, .int .i64 2, .int .i64 2, .int .i64 3] 3) (by omega)).trans hR2.out)
 have hs2p : w2.heap.size < (w2.alloc (.cells #[.int .i64 1, .int .i64 2, .int .i64 2, .int .i64 2, .int .i64 3] 3)).heap.size := by simp
 replace hs2p := hidI hs2p
 replace hd2 := hidI hd2
 replace hg2 := hidI hg2
 go_wp2_with fail
 refine hpk.mono ?_
 rintro e w3 ⟨r0, ⟨r1, r3⟩, rfl, hg3, hd3⟩
 clear hpk
 obtain ⟨r, rfl⟩ : ∃ r : Nat, r0 = (r : Int) := ⟨r0.toNat, by omega⟩
 have hR3 := hidI ((kept_block hg3 (by have := hs2p.out; omega) (by omega)).trans hR2p.out)
 have hg03 := grown_trans hg2p.out hg3
 have hsz3 := hg03.size
 have hsz3b : w1.heap.size ≤ w3.heap.size := by have := hg3.size; have := hs2p.out; omega
 have hwd := words6_in hd3 r (by omega) (by omega)
 replace hg03 := hidI hg03
 replace hg3 := hidI hg3
 replace hd3 := hidI hd3
 go_wp2_with fail
 refine hwd.mono ?_
 rintro e w4 ⟨lv, zss, hzs, rfl, hrd4, hg4, hd4⟩
 clear hwd
 have hsz4 := hg4.size
 obtain ⟨hP, htot⟩ := flower_small (r := (r : Int)) (by omega) hzs
 have hfl := specFlower w4 (r : Int) lv zss hrd4 (by omega)
 have hR4 := hidI ((kept_block hg4 (by omega) (by omega)).trans hR3.out)
 have hg04 := hidI (grown_trans hg03.out hg4)
 obtain ⟨FR, hFR⟩ := exq (floR (r : Int) zss)
 obtain ⟨FS, hFS⟩ := exq (floZ (r : Int) zss)
 obtain ⟨FE, hFE⟩ := exq (floE (r : Int) zss)
 obtain ⟨FB, hFB⟩ := exq (arew (r : Int) zss)
 rw [← hFR, ← hFS, ← hFE, ← hFB] at hfl
 rw [← hFR, ← hFS, ← hFE] at hP
 obtain ⟨_, lva, lvc, rfl, _, _⟩ : ReadSS _ _ lv zss := hrd4
 obtain ⟨nz, hnz⟩ := exq zss.length
 rw [← hnz] at hfl ⊢
 replace hnz := hidI hnz
 replace hFR := hidI hFR
 replace hFS := hidI hFS
 replace hFE := hidI hFE
 replace hFB := hidI hFB
 replace hzs := hidI hzs
 replace hP := hidI hP
 replace hg4 := hidI hg4
 replace hd4 := hidI hd4
 go_wp2_with fail
 refine hfl.mono ?_
 rintro e w5 ⟨fa, fc, rfl, hrow5, hb5⟩
 clear hfl
 have hsz5 := hb5.size
 obtain ⟨q, hq⟩ := exq FE.length
 rw [← hq] at hrow5 ⊢
 obtain ⟨X, hX⟩ := exq w5.heap.size
 obtain ⟨w6, hw6⟩ := exq (w5.alloc (.cells #[.int .i64 0, .int .i64 0, .slice none 0 0] 26))
 have hX0 : w6.heap[X]? = some (.cells #[.int .i64 0, .int .i64 0, .slice none 0 0] 26 (0, 0)) := by rw [hw6, hX]; exact heap_alloc_new _ _
 have hbw6 : Below w5.heap.size w5 w6 := by rw [hw6]; exact (Below.refl _ _).alloc (Nat.le_refl _) _
 obtain ⟨w7, hw7⟩ := exq (((w6.setCell ⟨X, 0, none⟩ (.int .i64 FR)).setCell ⟨X, 1, none⟩ (.int .i64 FS)).setCell ⟨X, 2, none⟩ (.slice fa q fc))
 have hXC : w7.heap[X]? = some (.cells #[.int .i64 FR, .int .i64 FS, .slice fa q fc] 26 (0, 0)) := by rw [hw7]; exact set3 hX0 _ _ _
 have hbw7 : Below w5.heap.size w5 w7 := by rw [hw7, hX]; exact below_set3 hbw6 (Nat.le_refl _)
 have hszC := hbw7.size
 have hsw7 : X < w7.heap.size := (Array.getElem?_eq_some_iff.1 hXC).1
 obtain ⟨t0, t1, t2⟩ := cell3 hX0
 have ft := fun j => frozen_of_row w6 X j _ _ hX0
 obtain ⟨x0, x1, x2⟩ := cell3 hXC
 simp at t0 t1 t2 x0 x1 x2
 have hBw := hidI hw6.symm
 have hCw := hidI hw7.symm
 have hXw := hidI hX.symm
 replace hw6 := hidI hw6
 replace hw7 := hidI hw7
 replace hX0 := hidI hX0
 replace hX := hidI hX
 have hb47 := hb5.trans (hbw7.mono hsz5)
 have hRz := (hb47.block _ (by omega)).trans hR4.out
 have hrz : RowS 47 3 w7 w4.heap.size w5.heap.size (.slice fa q fc) q (flatE FE) := hrow5.below hbw7 (Nat.le_refl _)
 have hgz := grown_below hg04.out (hb47.mono (by omega))
 have hdz := hd4.out.over hb47 (by have := hd4.out.lt; omega)
 obtain ⟨y0, y1, y2⟩ := cell3 hRz
 have f2 := fun j => frozen_of_row w7 w.heap.size j _ _ hRz
 simp at y0 y1 y2
 have hfz := fin.out w7 w4.heap.size w5.heap.size FR FS fa q fc FE hq hP.out hrz (by omega) (by omega) hgz hdz
 have hset := set3 hRz (.int .i64 FR) (.int .i64 FS) (.slice fa q fc)
 replace hfz := hidI hfz
 replace hset := hidI hset
 replace hRz := hidI hRz
 replace hq := hidI hq
 replace hrow5 := hidI hrow5
 replace hb5 := hidI hb5
 replace hb47 := hidI hb47
 replace hrz := hidI hrz
 replace hgz := hidI hgz
 replace hdz := hidI hdz
 replace hXC := hidI hXC
 replace hbw7 := hidI hbw7
 go_upto_region 8 with (first | rw [hBw.out] | rw [hXw.out] | fail)
 try rw [hXw.out]
 rw [hCw.out]
 clear t0 t1 t2 ft
 go_wp2
 (try simp only [Exit.inBlock, Exit.then])
 refine ret_cell (cs := #[.int .i64 FR, .int .i64 FS, .slice fa q fc]) rfl (g := w.heap.size) rfl (by exact hset.out) Tryz.underlying26 sizeGraph ?_
 exact hfz.out
def DrGr (w : World) (e : Ending) (w' : World) : Prop := ∃ r s es, Gr0 r s es ∧ LwGraph w r s es e w'
set_option maxHeartbeats 3200000 in
set_option maxRecDepth 100000 in
theorem drawTrim_any (w : World) (a : Option Addr) (len cap : Nat) (hcode : CodeIn w.heap.size w a len) :
 Calls Tryz.prog 5 #[.slice a len cap] w (DrGr w) := by
 obtain ⟨w1, hw1⟩ := exq (w.alloc (.cells #[.int .i64 0, .int .i64 0, .slice none 0 0] 26))
 have hb1 : Below w.heap.size w w1 := by rw [hw1]; exact (Below.refl _ _).alloc (Nat.le_refl _) _
 have hs1 : w.heap.size < w1.heap.size := by rw [hw1]; simp
 have hk1 : w1.heap[w.heap.size]? = some (.cells #[.int .i64 0, .int .i64 0, .slice none 0 0] 26 (0, 0)) := by rw [hw1]; exact heap_alloc_new _ _
 have hnew := new_at w1 a len cap ((hcode.below hb1).up hb1.size)
 have hww := hidI hw1.symm
 replace hcode := hidI hcode
 replace hw1 := hidI hw1
 replace hk1 := hidI hk1
 go_enter Tryz.func5, Tryz.ntmps5
 go_upto_region 1 with fail
 rw [hww.out]
 go_wp2_with fail
 refine hnew.mono ?_
 rintro e w2 ⟨g, rfl, hb2, hd2⟩
 clear hnew
 have hgg := g7_in hd2
 have hsz2 := hb2.size
 have hR2 := hidI ((hb2.block _ hs1).trans hk1.out)
 have hb12 := hidI (hb1.trans (hb2.mono hb1.size))
 replace hd2 := hidI hd2
 replace hb2 := hidI hb2
 go_wp2_with fail
 refine hgg.mono ?_
 rintro e w3 ⟨r, s, x, c, es, hP, rfl, hrow3, hg3, hd3⟩
 clear hgg
 have hb3 := hd2.out.below hg3
 have hRz := (hb3.block _ hs1).trans hR2.out
 obtain ⟨n, hm⟩ := exq es.length
 rw [← hm] at hrow3 ⊢
 obtain ⟨y0, y1, y2⟩ := cell3 hRz
 have f2 := fun j => frozen_of_row w3 w.heap.size j _ _ hRz
 simp at y0 y1 y2
 have hsz3 := hg3.size
 have hfz : DrGr w (.returned (.agg #[.int .i64 r, .int .i64 s, .slice x n c])) (((w3.setCell ⟨w.heap.size, 0, none⟩ (.int .i64 r)).setCell ⟨w.heap.size, 1, none⟩ (.int .i64 s)).setCell ⟨w.heap.size, 2, none⟩ (.slice x n c)) := by
  subst hm
  exact ⟨r, s, es, hP, x, c, rfl, (hrow3.set3_ (.inl (by omega))).wide (by omega) (by rw [size_set3]; exact Nat.le_refl _), below_set3 (hb12.out.trans (hb3.mono (by omega))) (Nat.le_refl _)⟩
 have hset := set3 hRz (.int .i64 r) (.int .i64 s) (.slice x n c)
 replace hfz := hidI hfz
 replace hset := hidI hset
 replace hRz := hidI hRz
 replace hm := hidI hm
 replace hP := hidI hP
 replace hrow3 := hidI hrow3
 replace hg3 := hidI hg3
 replace hd3 := hidI hd3
 replace hb3 := hidI hb3
 go_wp2
 (try simp only [Exit.inBlock, Exit.then])
 refine ret_cell (cs := #[.int .i64 r, .int .i64 s, .slice x n c]) rfl (g := w.heap.size) rfl (by exact hset.out) Tryz.underlying26 sizeGraph ?_
 exact hfz.out
set_option maxHeartbeats 3200000 in
set_option maxRecDepth 100000 in
theorem drawTree_any (w : World) (a : Option Addr) (len cap : Nat) (hcode : CodeIn w.heap.size w a len) :
 Calls Tryz.prog 22 #[.slice a len cap] w (DrGr w) := by
 obtain ⟨w1, hw1⟩ := exq (w.alloc (.cells #[.int .i64 0, .int .i64 0, .slice none 0 0] 26))
 have hb1 : Below w.heap.size w w1 := by rw [hw1]; exact (Below.refl _ _).alloc (Nat.le_refl _) _
 have hs1 : w.heap.size < w1.heap.size := by rw [hw1]; simp
 have hk1 : w1.heap[w.heap.size]? = some (.cells #[.int .i64 0, .int .i64 0, .slice none 0 0] 26 (0, 0)) := by rw [hw1]; exact heap_alloc_new _ _
 have hnew := new_at w1 a len cap ((hcode.below hb1).up hb1.size)
 have hww := hidI hw1.symm
 replace hcode := hidI hcode
 replace hw1 := hidI hw1
 replace hk1 := hidI hk1
 go_enter Tryz.func22, Tryz.ntmps22
 go_upto_region 1 with fail
 rw [hww.out]
 go_wp2_with fail
 refine hnew.mono ?_
 rintro e w2 ⟨g, rfl, hb2, hd2⟩
 clear hnew
 have hgg := g7_in hd2
 have hsz2 := hb2.size
 have hR2 := hidI ((hb2.block _ hs1).trans hk1.out)
 have hb12 := hidI (hb1.trans (hb2.mono hb1.size))
 replace hd2 := hidI hd2
 replace hb2 := hidI hb2
 go_wp2_with fail
 refine hgg.mono ?_
 rintro e w3 ⟨r, s, x, c, es, hP, rfl, hrow3, hg3, hd3⟩
 clear hgg
 have hb3 := hd2.out.below hg3
 have hRz := (hb3.block _ hs1).trans hR2.out
 obtain ⟨n, hm⟩ := exq es.length
 rw [← hm] at hrow3 ⊢
 obtain ⟨y0, y1, y2⟩ := cell3 hRz
 have f2 := fun j => frozen_of_row w3 w.heap.size j _ _ hRz
 simp at y0 y1 y2
 have hsz3 := hg3.size
 have hfz : DrGr w (.returned (.agg #[.int .i64 r, .int .i64 s, .slice x n c])) (((w3.setCell ⟨w.heap.size, 0, none⟩ (.int .i64 r)).setCell ⟨w.heap.size, 1, none⟩ (.int .i64 s)).setCell ⟨w.heap.size, 2, none⟩ (.slice x n c)) := by
  subst hm
  exact ⟨r, s, es, hP, x, c, rfl, (hrow3.set3_ (.inl (by omega))).wide (by omega) (by rw [size_set3]; exact Nat.le_refl _), below_set3 (hb12.out.trans (hb3.mono (by omega))) (Nat.le_refl _)⟩
 have hset := set3 hRz (.int .i64 r) (.int .i64 s) (.slice x n c)
 replace hfz := hidI hfz
 replace hset := hidI hset
 replace hRz := hidI hRz
 replace hm := hidI hm
 replace hP := hidI hP
 replace hrow3 := hidI hrow3
 replace hg3 := hidI hg3
 replace hd3 := hidI hd3
 replace hb3 := hidI hb3
 go_wp2
 (try simp only [Exit.inBlock, Exit.then])
 refine ret_cell (cs := #[.int .i64 r, .int .i64 s, .slice x n c]) rfl (g := w.heap.size) rfl (by exact hset.out) Tryz.underlying26 sizeGraph ?_
 exact hfz.out
set_option maxHeartbeats 3200000 in
set_option maxRecDepth 100000 in
theorem drawCanG_any (w : World) (a : Option Addr) (len cap : Nat) (hcode : CodeIn w.heap.size w a len) :
 Calls Tryz.prog 19 #[.slice a len cap] w (DrGr w) := by
 obtain ⟨w1, hw1⟩ := exq (w.alloc (.cells #[.int .i64 0, .int .i64 0, .slice none 0 0] 26))
 have hb1 : Below w.heap.size w w1 := by rw [hw1]; exact (Below.refl _ _).alloc (Nat.le_refl _) _
 have hs1 : w.heap.size < w1.heap.size := by rw [hw1]; simp
 have hk1 : w1.heap[w.heap.size]? = some (.cells #[.int .i64 0, .int .i64 0, .slice none 0 0] 26 (0, 0)) := by rw [hw1]; exact heap_alloc_new _ _
 have hnew := new_at w1 a len cap ((hcode.below hb1).up hb1.size)
 have hww := hidI hw1.symm
 replace hcode := hidI hcode
 replace hw1 := hidI hw1
 replace hk1 := hidI hk1
 go_enter Tryz.func19, Tryz.ntmps19
 go_upto_region 1 with fail
 rw [hww.out]
 go_wp2_with fail
 refine hnew.mono ?_
 rintro e w2 ⟨g, rfl, hb2, hd2⟩
 clear hnew
 have hgg := g5_in hd2
 have hsz2 := hb2.size
 have hR2 := hidI ((hb2.block _ hs1).trans hk1.out)
 have hb12 := hidI (hb1.trans (hb2.mono hb1.size))
 replace hd2 := hidI hd2
 replace hb2 := hidI hb2
 go_wp2_with fail
 refine hgg.mono ?_
 rintro e w3 ⟨r, s, x, c, es, hP, rfl, hrow3, hg3, hd3⟩
 clear hgg
 have hb3 := hd2.out.below hg3
 have hRz := (hb3.block _ hs1).trans hR2.out
 obtain ⟨n, hm⟩ := exq es.length
 rw [← hm] at hrow3 ⊢
 obtain ⟨y0, y1, y2⟩ := cell3 hRz
 have f2 := fun j => frozen_of_row w3 w.heap.size j _ _ hRz
 simp at y0 y1 y2
 have hsz3 := hg3.size
 have hfz : DrGr w (.returned (.agg #[.int .i64 r, .int .i64 s, .slice x n c])) (((w3.setCell ⟨w.heap.size, 0, none⟩ (.int .i64 r)).setCell ⟨w.heap.size, 1, none⟩ (.int .i64 s)).setCell ⟨w.heap.size, 2, none⟩ (.slice x n c)) := by
  subst hm
  exact ⟨r, s, es, hP, x, c, rfl, (hrow3.set3_ (.inl (by omega))).wide (by omega) (by rw [size_set3]; exact Nat.le_refl _), below_set3 (hb12.out.trans (hb3.mono (by omega))) (Nat.le_refl _)⟩
 have hset := set3 hRz (.int .i64 r) (.int .i64 s) (.slice x n c)
 replace hfz := hidI hfz
 replace hset := hidI hset
 replace hRz := hidI hRz
 replace hm := hidI hm
 replace hP := hidI hP
 replace hrow3 := hidI hrow3
 replace hg3 := hidI hg3
 replace hd3 := hidI hd3
 replace hb3 := hidI hb3
 go_wp2
 (try simp only [Exit.inBlock, Exit.then])
 refine ret_cell (cs := #[.int .i64 r, .int .i64 s, .slice x n c]) rfl (g := w.heap.size) rfl (by exact hset.out) Tryz.underlying26 sizeGraph ?_
 exact hfz.out
set_option maxHeartbeats 3200000 in
set_option maxRecDepth 100000 in
theorem drawIsCo_any (w : World) (a : Option Addr) (len cap : Nat) (hcode : CodeIn w.heap.size w a len) :
 Calls Tryz.prog 21 #[.slice a len cap] w (fun e w' => ∃ r s es, es.length ≤ 100 ∧ (-9223372036854775808 ≤ s ∧ s ≤ 9223372036854775807) ∧ LwGraph w r s es e w') := by
 obtain ⟨w1, hw1⟩ := exq (w.alloc (.cells #[.int .i64 0, .int .i64 0, .slice none 0 0] 26))
 have hb1 : Below w.heap.size w w1 := by rw [hw1]; exact (Below.refl _ _).alloc (Nat.le_refl _) _
 have hs1 : w.heap.size < w1.heap.size := by rw [hw1]; simp
 have hk1 : w1.heap[w.heap.size]? = some (.cells #[.int .i64 0, .int .i64 0, .slice none 0 0] 26 (0, 0)) := by rw [hw1]; exact heap_alloc_new _ _
 have hnew := new_at w1 a len cap ((hcode.below hb1).up hb1.size)
 have hww := hidI hw1.symm
 replace hcode := hidI hcode
 replace hw1 := hidI hw1
 replace hk1 := hidI hk1
 go_enter Tryz.func21, Tryz.ntmps21
 go_upto_region 1 with fail
 rw [hww.out]
 go_wp2_with fail
 refine hnew.mono ?_
 rintro e w2 ⟨g, rfl, hb2, hd2⟩
 clear hnew
 have hgg := g7_in hd2
 have hsz2 := hb2.size
 have hR2 := hidI ((hb2.block _ hs1).trans hk1.out)
 have hb12 := hidI (hb1.trans (hb2.mono hb1.size))
 replace hd2 := hidI hd2
 replace hb2 := hidI hb2
 go_wp2_with fail
 refine hgg.mono ?_
 rintro e w3 ⟨r, s, x, c, es, hP, rfl, hrow3, hg3, hd3⟩
 clear hgg
 have hb3 := hd2.out.below hg3
 have hR3 := (hb3.block _ hs1).trans hR2.out
 obtain ⟨n, hm⟩ := exq es.length
 rw [← hm] at hrow3 ⊢
 have hsz3 := hg3.size
 obtain ⟨X, hX⟩ := exq w3.heap.size
 obtain ⟨w4, hw4⟩ := exq (w3.alloc (.cells #[.int .i64 0, .int .i64 0, .slice none 0 0] 26))
 have hX0 : w4.heap[X]? = some (.cells #[.int .i64 0, .int .i64 0, .slice none 0 0] 26 (0, 0)) := by rw [hw4, hX]; exact heap_alloc_new _ _
 have hbw4 : Below w3.heap.size w3 w4 := by rw [hw4]; exact (Below.refl _ _).alloc (Nat.le_refl _) _
 obtain ⟨w5, hw5⟩ := exq (((w4.setCell ⟨X, 0, none⟩ (.int .i64 r)).setCell ⟨X, 1, none⟩ (.int .i64 s)).setCell ⟨X, 2, none⟩ (.slice x n c))
 have hXC : w5.heap[X]? = some (.cells #[.int .i64 r, .int .i64 s, .slice x n c] 26 (0, 0)) := by rw [hw5]; exact set3 hX0 _ _ _
 have hbw5 : Below w3.heap.size w3 w5 := by rw [hw5, hX]; exact below_set3 hbw4 (Nat.le_refl _)
 have hszC := hbw5.size
 have hsw5 : X < w5.heap.size := (Array.getElem?_eq_some_iff.1 hXC).1
 obtain ⟨t0, t1, t2⟩ := cell3 hX0
 have ft := fun j => frozen_of_row w4 X j _ _ hX0
 obtain ⟨x0, x1, x2⟩ := cell3 hXC
 simp at t0 t1 t2 x0 x1 x2
 have hBw := hidI hw4.symm
 have hCw := hidI hw5.symm
 have hXw := hidI hX.symm
 replace hw4 := hidI hw4
 replace hw5 := hidI hw5
 replace hX0 := hidI hX0
 replace hX := hidI hX
 have hd5 := hd3.over hbw5 hd3.lt
 have hon := once_in hd5 2 2 rfl (by omega) (by omega)
 have hR5 := (hbw5.block _ (by omega)).trans hR3
 have hrow5 : RowS 47 3 w5 w2.heap.size w3.heap.size (.slice x n c) n (flatE es) := hrow3.below hbw5 (Nat.le_refl _)
 have hb25 := hb3.trans (hbw5.mono (by omega))
 replace hXC := hidI hXC
 replace hbw5 := hidI hbw5
 replace hR3 := hidI hR3
 replace hR5 := hidI hR5
 replace hrow3 := hidI hrow3
 replace hrow5 := hidI hrow5
 replace hg3 := hidI hg3
 replace hd3 := hidI hd3
 replace hb3 := hidI hb3
 replace hb25 := hidI hb25
 replace hd5 := hidI hd5
 replace hm := hidI hm
 go_upto_region 3 with (first | rw [hBw.out] | rw [hXw.out] | fail)
 try rw [hXw.out]
 rw [hCw.out]
 clear t0 t1 t2 ft
 go_wp2_with fail
 refine hon.mono ?_
 rintro e w6 ⟨q, rfl, hg6, hd6⟩
 clear hon
 have hX3 : w3.heap.size ≤ X := by have := hX.out; omega
 have hb6 : Below w1.heap.size w5 w6 := hd5.out.below hg6
 have hgX : g < X := by have := hd3.out.lt; omega
 have hX6 := (hg6.block X hsw5 (fun e => by cases e; omega)).trans hXC.out
 have hR6 := (hb6.block _ hs1).trans hR5.out
 have hlo : w1.heap.size ≤ w2.heap.size := hsz2
 have hrow6 : RowS 47 3 w6 w2.heap.size w3.heap.size (.slice x n c) n (flatE es) := hrow5.out.keep (fun k h1 h2 => hg6.block k (by omega) (fun e => by cases e; have := hd2.out.lt; omega))
 have hb16 := hb12.out.trans ((hb25.out.trans hb6).mono (by omega))
 have hsz6 := hg6.size
 obtain ⟨z0, z1, z2⟩ := cell3 hX6
 simp at z0 z1 z2
 clear x0 x1 x2
 cases q with
 | true =>
  have hcr := specCoreG w6 r s (.slice x n c) es (by have := hrow6.read.mono (show w3.heap.size ≤ w6.heap.size by omega); rw [hm.out] at this ⊢; exact this) (by have := hP.2.1; omega) (by have := hP.2.2; omega)
  have hcl := crE_length r s es
  have hcb : -9223372036854775808 ≤ crS r s es ∧ crS r s es ≤ 9223372036854775807 := by
   cases hg : isGr r s es with
   | true => have := isGr_lim (fo_gr (cr_core hg).1).1; omega
   | false =>
    have h1 := fa_no hg
    have h2 := tm_no (r := r) (s := s) (es := es) hg
    have h3 : isFo r s es = false := by unfold isFo; rw [hg]; rfl
    have h4 := canon_no h3
    have : crS r s es = s := by unfold crS; rw [h1.1, h1.2, h2.1, h2.2.1, h4.1]
    rw [this]; have := hP.2.1; omega
  obtain ⟨CS, hCS⟩ := exq (crS r s es)
  obtain ⟨CE, hCE⟩ := exq (crE r s es)
  rw [← hCS, ← hCE] at hcr
  rw [← hCS] at hcb
  rw [← hCE] at hcl
  have hP2 := hP.2.2
  replace hCS := hidI hCS
  replace hCE := hidI hCE
  replace hP := hidI hP
  replace hX6 := hidI hX6
  replace hR6 := hidI hR6
  replace hrow6 := hidI hrow6
  replace hb16 := hidI hb16
  replace hg6 := hidI hg6
  replace hd6 := hidI hd6
  replace hb6 := hidI hb6
  replace hcb := hidI hcb
  replace hcl := hidI hcl
  go_wp2_with fail
  refine hcr.mono ?_
  rintro e w7 ⟨ca, cc, rfl, hrow7, hb7⟩
  clear hcr z0 z1 z2
  have hRz := (hb7.block _ (by omega)).trans hR6.out
  have hb17 := hb16.out.trans (hb7.mono (by omega))
  obtain ⟨q, hq⟩ := exq CE.length
  rw [← hq] at hrow7 ⊢
  obtain ⟨y0, y1, y2⟩ := cell3 hRz
  have f2 := fun j => frozen_of_row w7 w.heap.size j _ _ hRz
  simp at y0 y1 y2
  have hsz7 := hb7.size
  have hfz : ∃ r' s' es', es'.length ≤ 100 ∧ (-9223372036854775808 ≤ s' ∧ s' ≤ 9223372036854775807) ∧ LwGraph w r' s' es' (.returned (.agg #[.int .i64 r, .int .i64 CS, .slice ca q cc])) (((w7.setCell ⟨w.heap.size, 0, none⟩ (.int .i64 r)).setCell ⟨w.heap.size, 1, none⟩ (.int .i64 CS)).setCell ⟨w.heap.size, 2, none⟩ (.slice ca q cc)) := by
   have hmm := hm.out
   have hcl' := hcl.out
   subst hq
   exact ⟨r, CS, CE, by omega, hcb.out, ca, cc, rfl, (hrow7.set3_ (.inl (by omega))).wide (by omega) (by rw [size_set3]; exact Nat.le_refl _), below_set3 hb17 (Nat.le_refl _)⟩
  have hset := set3 hRz (.int .i64 r) (.int .i64 CS) (.slice ca q cc)
  replace hfz := hidI hfz
  replace hset := hidI hset
  replace hRz := hidI hRz
  replace hrow7 := hidI hrow7
  replace hb7 := hidI hb7
  replace hb17 := hidI hb17
  replace hq := hidI hq
  go_wp2
  (try simp only [Exit.inBlock, Exit.then])
  refine ret_cell (cs := #[.int .i64 r, .int .i64 CS, .slice ca q cc]) rfl (g := w.heap.size) rfl (by exact hset.out) Tryz.underlying26 sizeGraph ?_
  exact hfz.out
 | false =>
  obtain ⟨y0, y1, y2⟩ := cell3 hR6
  have f2 := fun j => frozen_of_row w6 w.heap.size j _ _ hR6
  simp at y0 y1 y2
  have hfz : ∃ r' s' es', es'.length ≤ 100 ∧ (-9223372036854775808 ≤ s' ∧ s' ≤ 9223372036854775807) ∧ LwGraph w r' s' es' (.returned (.agg #[.int .i64 r, .int .i64 s, .slice x n c])) (((w6.setCell ⟨w.heap.size, 0, none⟩ (.int .i64 r)).setCell ⟨w.heap.size, 1, none⟩ (.int .i64 s)).setCell ⟨w.heap.size, 2, none⟩ (.slice x n c)) := by
   have hmm := hm.out
   have hP2 := hP.2
   subst hmm
   exact ⟨r, s, es, hP2.2, by omega, x, c, rfl, (hrow6.set3_ (.inl (by omega))).wide (by omega) (by rw [size_set3]; omega), below_set3 hb16 (Nat.le_refl _)⟩
  have hset := set3 hR6 (.int .i64 r) (.int .i64 s) (.slice x n c)
  replace hfz := hidI hfz
  replace hset := hidI hset
  replace hP := hidI hP
  replace hX6 := hidI hX6
  replace hR6 := hidI hR6
  replace hrow6 := hidI hrow6
  replace hb16 := hidI hb16
  replace hg6 := hidI hg6
  replace hd6 := hidI hd6
  replace hb6 := hidI hb6
  go_wp2
  (try simp only [Exit.inBlock, Exit.then])
  refine ret_cell (cs := #[.int .i64 r, .int .i64 s, .slice x n c]) rfl (g := w.heap.size) rfl (by exact hset.out) Tryz.underlying26 sizeGraph ?_
  exact hfz.out
def DrGrI (w : World) (e : Ending) (w' : World) : Prop :=
 ∃ r s es zs, Gr0 r s es ∧ zs.length ≤ 10 ∧ ∃ a cap v, e = .returned (.tuple #[.agg #[.int .i64 r, .int .i64 s, .slice a es.length cap], v]) ∧ ReadE w'.heap.size w' (.slice a es.length cap) es ∧ ReadI w'.heap.size w' v zs ∧ Below w.heap.size w w'
set_option maxHeartbeats 12800000 in
set_option maxRecDepth 100000 in
theorem drawRen_any (w : World) (a : Option Addr) (len cap : Nat) (hcode : CodeIn w.heap.size w a len) :
 Calls Tryz.prog 16 #[.slice a len cap] w (DrGrI w) := by
 obtain ⟨w1, hw1⟩ := exq (w.alloc (.cells #[.int .i64 0, .int .i64 0, .slice none 0 0] 26))
 have hb1 : Below w.heap.size w w1 := by rw [hw1]; exact (Below.refl _ _).alloc (Nat.le_refl _) _
 have hs1 : w.heap.size < w1.heap.size := by rw [hw1]; simp
 have hk1 : w1.heap[w.heap.size]? = some (.cells #[.int .i64 0, .int .i64 0, .slice none 0 0] 26 (0, 0)) := by rw [hw1]; exact heap_alloc_new _ _
 have hnew := new_at w1 a len cap ((hcode.below hb1).up hb1.size)
 have hww := hidI hw1.symm
 replace hcode := hidI hcode
 replace hw1 := hidI hw1
 replace hk1 := hidI hk1
 go_enter Tryz.func16, Tryz.ntmps16
 go_upto_region 1 with fail
 rw [hww.out]
 go_wp2_with fail
 refine hnew.mono ?_
 rintro e w2 ⟨g, rfl, hb2, hd2⟩
 clear hnew
 have hgg := g7_in hd2
 have hsz2 := hb2.size
 have hR2 := hidI ((hb2.block _ hs1).trans hk1.out)
 have hb12 := hidI (hb1.trans (hb2.mono hb1.size))
 have hgw1 : w1.heap.size ≤ g := hd2.1.1
 replace hd2 := hidI hd2
 replace hb2 := hidI hb2
 go_wp2_with fail
 refine hgg.mono ?_
 rintro e w3 ⟨r, s, x, c, es, hP, rfl, hrow3, hg3, hd3⟩
 clear hgg
 have hb3 := hd2.out.below hg3
 have hR3 := (hb3.block _ hs1).trans hR2.out
 obtain ⟨n, hm⟩ := exq es.length
 rw [← hm] at hrow3 ⊢
 have hsz3 := hg3.size
 obtain ⟨X, hX⟩ := exq w3.heap.size
 obtain ⟨w4, hw4⟩ := exq (w3.alloc (.cells #[.int .i64 0, .int .i64 0, .slice none 0 0] 26))
 have hX0 : w4.heap[X]? = some (.cells #[.int .i64 0, .int .i64 0, .slice none 0 0] 26 (0, 0)) := by rw [hw4, hX]; exact heap_alloc_new _ _
 have hbw4 : Below w3.heap.size w3 w4 := by rw [hw4]; exact (Below.refl _ _).alloc (Nat.le_refl _) _
 obtain ⟨w5, hw5⟩ := exq (((w4.setCell ⟨X, 0, none⟩ (.int .i64 r)).setCell ⟨X, 1, none⟩ (.int .i64 s)).setCell ⟨X, 2, none⟩ (.slice x n c))
 have hXC : w5.heap[X]? = some (.cells #[.int .i64 r, .int .i64 s, .slice x n c] 26 (0, 0)) := by rw [hw5]; exact set3 hX0 _ _ _
 have hbw5 : Below w3.heap.size w3 w5 := by rw [hw5, hX]; exact below_set3 hbw4 (Nat.le_refl _)
 have hszC := hbw5.size
 have hsw5 : X < w5.heap.size := (Array.getElem?_eq_some_iff.1 hXC).1
 obtain ⟨t0, t1, t2⟩ := cell3 hX0
 have ft := fun j => frozen_of_row w4 X j _ _ hX0
 obtain ⟨x0, x1, x2⟩ := cell3 hXC
 simp at t0 t1 t2 x0 x1 x2
 have hBw := hidI hw4.symm
 have hCw := hidI hw5.symm
 have hXw := hidI hX.symm
 replace hw4 := hidI hw4
 replace hw5 := hidI hw5
 replace hX0 := hidI hX0
 replace hX := hidI hX
 have hd5 := hidI (hd3.over hbw5 hd3.lt)
 have hg5 : g < w3.heap.size := hd3.lt
 have hR5 := (hbw5.block _ (by omega)).trans hR3
 have hrow5 : RowS 47 3 w5 w2.heap.size w3.heap.size (.slice x n c) n (flatE es) := hrow3.below hbw5 (Nat.le_refl _)
 have hb25 := hb3.trans (hbw5.mono (by omega))
 have hb15 := hidI (hb12.out.trans (hb25.mono (by omega)))
 have hgX : g < X := by have := hX.out; omega
 have hg2 : g < w2.heap.size := hd2.out.lt
 have hRX : w.heap.size < X := by have := hX.out; omega
 have hRg : w.heap.size ≠ g := by omega
 have hXg : X ≠ g := by omega
 have hgb : g < w5.heap.size := by omega
 have fin : ∀ (W : World) (u : Value) (L : List Int), w5.grownBy W (some g) → OwnsI W w5.heap.size u L → L.length ≤ 10 →
  DrGrI w (.returned (.tuple #[.agg #[.int .i64 r, .int .i64 s, .slice x n c], u])) (((W.setCell ⟨w.heap.size, 0, none⟩ (.int .i64 r)).setCell ⟨w.heap.size, 1, none⟩ (.int .i64 s)).setCell ⟨w.heap.size, 2, none⟩ (.slice x n c)) := by
  intro W u L hg ho hl
  subst hm
  have hsz := hg.size
  have hrw : RowS 47 3 W w2.heap.size w3.heap.size (.slice x es.length c) es.length (flatE es) := hrow5.keep (fun k h1 h2 => hg.block k (by omega) (fun e => by cases e; omega))
  have hbW : Below w1.heap.size w5 W := ⟨hg.os, hg.tape, hg.output, hg.size, fun k hk => hg.block k (by omega) (fun e => by cases e; omega)⟩
  refine ⟨r, s, es, L, hP, hl, x, c, u, rfl, ((hrw.set3_ (.inl (by omega))).read).mono (by rw [size_set3]; omega), ((ho.row (by omega)).keep (fun k h1 h2 => heap_set3 (by omega))).read.mono (by rw [size_set3]; exact Nat.le_refl _), below_set3 (hb15.out.trans (hbW.mono (by omega))) (Nat.le_refl _)⟩
 replace fin := hidI fin
 replace hXC := hidI hXC
 replace hbw5 := hidI hbw5
 replace hR3 := hidI hR3
 replace hR5 := hidI hR5
 replace hrow3 := hidI hrow3
 replace hrow5 := hidI hrow5
 replace hg3 := hidI hg3
 replace hd3 := hidI hd3
 replace hb3 := hidI hb3
 replace hb25 := hidI hb25
 replace hm := hidI hm
 have hsb := hP.2.1
 replace hP := hidI hP
 go_upto_region 3 with (first | rw [hBw.out] | rw [hXw.out] | fail)
 try rw [hXw.out]
 rw [hCw.out]
 clear t0 t1 t2 ft
 obtain ⟨w6, hw6⟩ := exq (w5.alloc (.cells #[] 3))
 have hb6 : Below w5.heap.size w5 w6 := by rw [hw6]; exact (Below.refl _ _).alloc (Nat.le_refl _) _
 have ho6 := hidI (show OwnsI w6 w5.heap.size (.slice (some ⟨w5.heap.size, 0, none⟩) 0 0) [] by rw [hw6]; exact OwnsI.lit w5)
 have hg6 := hidI (grown_below (grown_refl w5 (some g)) hb6)
 have hd6 := hidI (hd5.out.over hb6 hgb)
 have hw6w := hidI hw6.symm
 replace hw6 := hidI hw6
 replace hb6 := hidI hb6
 go_upto_region 4 with fail
 rw [hw6w.out]
 clear x0 x1 x2
 go_wp2_with fail
 go_loopg [6, 7] 8 (fun gg u i wr => ∃ k : Nat, k + gg = 8 ∧ i = .int .i64 k ∧ Hid (∃ L, OwnsI wr w5.heap.size u L ∧ L.length ≤ k) ∧ Hid (w5.grownBy wr (some g)) ∧ Hid (Dr w1.heap.size g a len cap wr))
 case atStart => exact ⟨0, by omega, rfl, hidI ⟨[], ho6.out, by simp⟩, hg6, hd6⟩
 case round =>
  clear ho6
  obtain ⟨k, hk, rfl, hst, hgW, hdW⟩ := hrel
  obtain ⟨L, hown, hlk⟩ := hst.out
  have hswr := hgW.out.size
  have hXr := (hgW.out.block X (by omega) (fun e => by cases e; omega)).trans hXC.out
  obtain ⟨x0, x1, x2⟩ := cell3 hXr
  simp at x0 x1 x2
  replace hown := hidI hown
  replace hXr := hidI hXr
  replace hst := hidI hst
  have hlL : L.length ≤ 8 := by omega
  by_cases hks : (k : Int) < s
  case neg =>
   replace hk := hidI hk
   obtain ⟨ua, uc, hu⟩ : ∃ a c, u6 = Value.slice a L.length c := by
    obtain ⟨_, ⟨h1, h2⟩ | ⟨g, cap, cur, h1, _⟩⟩ := hown.out
    · exact ⟨none, 0, by rw [h1, h2]⟩
    · exact ⟨_, _, h1⟩
   subst hu
   obtain ⟨m, hm9⟩ := exq L.length
   rw [← hm9] at hown hlL ⊢
   by_cases hm1 : 1 < m
   case neg =>
    have hmi : ¬ (1 : Int) < (m : Int) := by omega
    have hlL2 : L.length ≤ 9 := by omega
    replace hm9 := hidI hm9
    have hon9 := once_in hdW.out 10 10 rfl (by omega) (by omega)
    go_wp2_with fail
    refine hon9.mono ?_
    rintro e wy ⟨q9, rfl, hgy, hdy⟩
    clear hon9
    replace hown := hidI (hown.out.kept hgy (by omega))
    replace hgW := hidI (grown_trans hgW.out hgy)
    replace hdW := hidI hdy
    clear hgy hdy
    have hswy := hgW.out.size
    cases q9 with
    | false =>
     have hXz := (hgW.out.block X (by omega) (fun e => by cases e; omega)).trans hXC.out
     have hRz := (hgW.out.block w.heap.size (by omega) (fun e => by cases e; omega)).trans hR5.out
     obtain ⟨q0, q1, q2⟩ := cell3 hXz
     obtain ⟨y0, y1, y2⟩ := cell3 hRz
     have f2 := fun j => frozen_of_row wy w.heap.size j _ _ hRz
     simp at q0 q1 q2 y0 y1 y2
     have hfz := fin.out wy (.slice ua m uc) L hgW.out hown.out (by omega)
     have hset := set3 hRz (.int .i64 r) (.int .i64 s) (.slice x n c)
     replace hfz := hidI hfz
     replace hset := hidI hset
     replace hXz := hidI hXz
     replace hRz := hidI hRz
     go_wp2
     (try simp only [Exit.inBlock, Exit.then])
     refine ret_cell2 (x := (.slice ua m uc)) rfl rfl rfl hset.out Tryz.underlying26 sizeGraph ?_
     exact hfz.out
    | true =>
     have hbe := below_in hdW.out 9 9 rfl (by omega) (by omega)
     go_wp2_with fail
     refine hbe.mono ?_
     rintro e wz ⟨t, ⟨tA, tB⟩, rfl, hgz, hdz⟩
     clear hbe
     replace hown := hidI (hown.out.kept hgz (by omega))
     replace hgW := hidI (grown_trans hgW.out hgz)
     replace hdW := hidI hdz
     clear hgz hdz
     have hswz := hgW.out.size
     go_wp2_with (at_builtin; go_must (refine wpList_pushI rfl _ _ rfl w5.heap.size _ L _ rfl rfl (by exact hown.out) (by omega) (by omega) ?_))
     intro v9 w9 hown9 hb9
     replace hown := hidI hown9
     replace hgW := hidI (grown_below hgW.out hb9)
     have hL9 : (L ++ [t - 1]).length ≤ 10 := by rw [List.length_append, List.length_singleton]; omega
     clear hown9 hb9 hdW
     obtain ⟨L9, hL9e⟩ := exq (L ++ [t - 1])
     rw [← hL9e] at hL9 hown
     replace hL9e := hidI hL9e
     have hXz := (hgW.out.block X (by omega) (fun e => by cases e; omega)).trans hXC.out
     have hRz := (hgW.out.block w.heap.size (by omega) (fun e => by cases e; omega)).trans hR5.out
     obtain ⟨q0, q1, q2⟩ := cell3 hXz
     obtain ⟨y0, y1, y2⟩ := cell3 hRz
     have f2 := fun j => frozen_of_row w9 w.heap.size j _ _ hRz
     simp at q0 q1 q2 y0 y1 y2
     have hfz := fin.out w9 v9 L9 hgW.out hown.out (by omega)
     have hset := set3 hRz (.int .i64 r) (.int .i64 s) (.slice x n c)
     replace hfz := hidI hfz
     replace hset := hidI hset
     replace hXz := hidI hXz
     replace hRz := hidI hRz
     go_wp2
     (try simp only [Exit.inBlock, Exit.then])
     refine ret_cell2 (x := v9) rfl rfl rfl hset.out Tryz.underlying26 sizeGraph ?_
     exact hfz.out
   case pos =>
    have hmi : (1 : Int) < (m : Int) := by omega
    have hlL2 : L.length ≤ 9 := by omega
    replace hm9 := hidI hm9
    have hon9 := once_in hdW.out 2 2 rfl (by omega) (by omega)
    go_wp2_with fail
    refine hon9.mono ?_
    rintro e w2y ⟨q9, rfl, hgy, hdy⟩
    clear hon9
    replace hown := hidI (hown.out.kept hgy (by omega))
    replace hgW := hidI (grown_trans hgW.out hgy)
    replace hdW := hidI hdy
    clear hgy hdy
    have hsw2y := hgW.out.size
    cases q9 with
    | false =>
     have hon9 := once_in hdW.out 10 10 rfl (by omega) (by omega)
     go_wp2_with fail
     refine hon9.mono ?_
     rintro e wy ⟨q9, rfl, hgy, hdy⟩
     clear hon9
     replace hown := hidI (hown.out.kept hgy (by omega))
     replace hgW := hidI (grown_trans hgW.out hgy)
     replace hdW := hidI hdy
     clear hgy hdy
     have hswy := hgW.out.size
     cases q9 with
     | false =>
      have hXz := (hgW.out.block X (by omega) (fun e => by cases e; omega)).trans hXC.out
      have hRz := (hgW.out.block w.heap.size (by omega) (fun e => by cases e; omega)).trans hR5.out
      obtain ⟨q0, q1, q2⟩ := cell3 hXz
      obtain ⟨y0, y1, y2⟩ := cell3 hRz
      have f2 := fun j => frozen_of_row wy w.heap.size j _ _ hRz
      simp at q0 q1 q2 y0 y1 y2
      have hfz := fin.out wy (.slice ua m uc) L hgW.out hown.out (by omega)
      have hset := set3 hRz (.int .i64 r) (.int .i64 s) (.slice x n c)
      replace hfz := hidI hfz
      replace hset := hidI hset
      replace hXz := hidI hXz
      replace hRz := hidI hRz
      go_wp2
      (try simp only [Exit.inBlock, Exit.then])
      refine ret_cell2 (x := (.slice ua m uc)) rfl rfl rfl hset.out Tryz.underlying26 sizeGraph ?_
      exact hfz.out
     | true =>
      have hbe := below_in hdW.out 9 9 rfl (by omega) (by omega)
      go_wp2_with fail
      refine hbe.mono ?_
      rintro e wz ⟨t, ⟨tA, tB⟩, rfl, hgz, hdz⟩
      clear hbe
      replace hown := hidI (hown.out.kept hgz (by omega))
      replace hgW := hidI (grown_trans hgW.out hgz)
      replace hdW := hidI hdz
      clear hgz hdz
      have hswz := hgW.out.size
      go_wp2_with (at_builtin; go_must (refine wpList_pushI rfl _ _ rfl w5.heap.size _ L _ rfl rfl (by exact hown.out) (by omega) (by omega) ?_))
      intro v9 w9 hown9 hb9
      replace hown := hidI hown9
      replace hgW := hidI (grown_below hgW.out hb9)
      have hL9 : (L ++ [t - 1]).length ≤ 10 := by rw [List.length_append, List.length_singleton]; omega
      clear hown9 hb9 hdW
      obtain ⟨L9, hL9e⟩ := exq (L ++ [t - 1])
      rw [← hL9e] at hL9 hown
      replace hL9e := hidI hL9e
      have hXz := (hgW.out.block X (by omega) (fun e => by cases e; omega)).trans hXC.out
      have hRz := (hgW.out.block w.heap.size (by omega) (fun e => by cases e; omega)).trans hR5.out
      obtain ⟨q0, q1, q2⟩ := cell3 hXz
      obtain ⟨y0, y1, y2⟩ := cell3 hRz
      have f2 := fun j => frozen_of_row w9 w.heap.size j _ _ hRz
      simp at q0 q1 q2 y0 y1 y2
      have hfz := fin.out w9 v9 L9 hgW.out hown.out (by omega)
      have hset := set3 hRz (.int .i64 r) (.int .i64 s) (.slice x n c)
      replace hfz := hidI hfz
      replace hset := hidI hset
      replace hXz := hidI hXz
      replace hRz := hidI hRz
      go_wp2
      (try simp only [Exit.inBlock, Exit.then])
      refine ret_cell2 (x := v9) rfl rfl rfl hset.out Tryz.underlying26 sizeGraph ?_
      exact hfz.out
    | true =>
     replace hm9 := hm9.out
     obtain ⟨gl, lcap, hul, hgl1, hgl2, hglc⟩ := ownI_form hown.out (by omega)
     rw [← hm9] at hul hglc
     simp only [Value.slice.injEq, true_and] at hul
     obtain ⟨rfl, rfl⟩ := hul
     have hrd := (hown.out.row (by omega)).read
     obtain ⟨lb, lo9, hab, hlb, hcl⟩ := hrd.at2 0 (by omega)
     simp only [Option.some.injEq, Addr.mk.injEq, and_true] at hab
     obtain ⟨rfl, rfl⟩ := hab
     have hrt : ReadI w2y.heap.size w2y (.slice (some ⟨gl, 1, none⟩) (m - 1) (uc - 1)) (L.drop 1) := by
      obtain ⟨_, a9, c9, hv9, _, hz9 | ⟨b9, o9, e9, hb9, hc9⟩⟩ := hrd
      · rw [hz9] at hm9; simp at hm9; omega
      · simp only [Value.slice.injEq] at hv9
        obtain ⟨e1, _, e3⟩ := hv9
        rw [e9] at e1
        simp only [Option.some.injEq, Addr.mk.injEq, and_true] at e1
        obtain ⟨rfl, rfl⟩ := e1
        refine ⟨by rw [List.length_drop]; omega, _, _, by rw [List.length_drop, ← hm9], ⟨(fun e => by cases e), by rw [List.length_drop]; omega⟩, .inr ⟨gl, 1, rfl, hb9, fun i hi => ?_⟩⟩
        rw [List.length_drop] at hi
        have := hc9 (1 + i) (by omega)
        rw [Nat.zero_add] at this
        rw [this, List.getD_eq_getElem?_getD, List.getD_eq_getElem?_getD, List.getElem?_drop]
     have hbl : Below w2y.heap.size w2y (w2y.alloc (.cells #[] 3)) := (Below.refl _ _).alloc (Nat.le_refl _) _
     have hol := hidI (OwnsI.lit w2y)
     have hrl := hidI (hrt.below hbl)
     have hcl1 := below_cell hcl hbl hlb
     have hdL : (L.drop 1).length ≤ 8 := by rw [List.length_drop]; omega
     have hdl2 : (L.drop 1).length + 1 = m := by rw [List.length_drop]; omega
     obtain ⟨Lt, hLt⟩ := exq (L.drop 1)
     rw [← hLt] at hrl hdL hdl2
     obtain ⟨z0, hz0⟩ := exq (L.getD 0 0)
     rw [← hz0] at hcl hcl1
     have hm1' : ¬ m = 1 := by omega
     have huc1 : ¬ uc = 1 := by omega
     have hm1'' : 1 ≤ m := by omega
     replace hm9 := hidI hm9
     replace hrd := hidI hrd
     replace hrt := hidI hrt
     replace hLt := hidI hLt
     replace hz0 := hidI hz0
     replace hdl2 := hidI hdl2
     go_wp2_with (at_builtin; go_must (refine wpList_pushAllI rfl _ _ rfl w2y.heap.size _ _ [] Lt w2y.heap.size rfl rfl (by exact hol.out) (by exact hrl.out) (by simp; omega) (by simp) ?_))
     intro v8 w8 hown8 hb8
     try rw [List.nil_append] at hown8
     have hb28 := hbl.trans hb8
     have hcl8 := below_cell hcl hb28 hlb
     have hsz8 := hb28.size
     replace hown8 := hidI hown8
     replace hb28 := hidI hb28
     clear hb8 hcl hcl1 hbl
     go_wp2_with (at_builtin; go_must (refine wpList_pushI rfl _ _ rfl w2y.heap.size _ Lt _ rfl rfl (by exact hown8.out) (by omega) hsz8 ?_))
     intro v9 w9 hown9 hb9
     have hb29 := hb28.out.trans hb9
     have hown0 := hown9.mono (show w5.heap.size ≤ w2y.heap.size by omega)
     obtain ⟨L2, hL2⟩ := exq (Lt ++ [z0])
     have hl2 : L2.length ≤ 9 := by rw [hL2, List.length_append, List.length_singleton]; omega
     rw [← hL2] at hown0
     replace hL2 := hidI hL2
     replace hown := hidI hown0
     replace hgW := hidI (grown_below hgW.out (hb29.mono (by omega)))
     replace hdW := hidI (hdW.out.over (hb29.mono (show w5.heap.size ≤ w2y.heap.size by omega)) hgb)
     clear hown9 hb9 hb29 hown0 hcl8
     have hsw9 := hgW.out.size
     obtain ⟨va9, vm9, vc9, hv9⟩ : ∃ a m c, v9 = Value.slice a m c := by
      obtain ⟨_, ⟨h1, h2⟩ | ⟨g, cap, cur, h1, _⟩⟩ := hown.out
      · exact ⟨none, 0, 0, h1⟩
      · exact ⟨_, _, _, h1⟩
     subst hv9
     have hon9 := once_in hdW.out 10 10 rfl (by omega) (by omega)
     go_wp2_with fail
     refine hon9.mono ?_
     rintro e wy ⟨q9, rfl, hgy, hdy⟩
     clear hon9
     replace hown := hidI (hown.out.kept hgy (by omega))
     replace hgW := hidI (grown_trans hgW.out hgy)
     replace hdW := hidI hdy
     clear hgy hdy
     have hswy := hgW.out.size
     cases q9 with
     | false =>
      have hXz := (hgW.out.block X (by omega) (fun e => by cases e; omega)).trans hXC.out
      have hRz := (hgW.out.block w.heap.size (by omega) (fun e => by cases e; omega)).trans hR5.out
      obtain ⟨q0, q1, q2⟩ := cell3 hXz
      obtain ⟨y0, y1, y2⟩ := cell3 hRz
      have f2 := fun j => frozen_of_row wy w.heap.size j _ _ hRz
      simp at q0 q1 q2 y0 y1 y2
      have hfz := fin.out wy (.slice va9 vm9 vc9) L2 hgW.out hown.out (by omega)
      have hset := set3 hRz (.int .i64 r) (.int .i64 s) (.slice x n c)
      replace hfz := hidI hfz
      replace hset := hidI hset
      replace hXz := hidI hXz
      replace hRz := hidI hRz
      go_wp2
      (try simp only [Exit.inBlock, Exit.then])
      refine ret_cell2 (x := (.slice va9 vm9 vc9)) rfl rfl rfl hset.out Tryz.underlying26 sizeGraph ?_
      exact hfz.out
     | true =>
      have hbe := below_in hdW.out 9 9 rfl (by omega) (by omega)
      go_wp2_with fail
      refine hbe.mono ?_
      rintro e wz ⟨t, ⟨tA, tB⟩, rfl, hgz, hdz⟩
      clear hbe
      replace hown := hidI (hown.out.kept hgz (by omega))
      replace hgW := hidI (grown_trans hgW.out hgz)
      replace hdW := hidI hdz
      clear hgz hdz
      have hswz := hgW.out.size
      go_wp2_with (at_builtin; go_must (refine wpList_pushI rfl _ _ rfl w5.heap.size _ L2 _ rfl rfl (by exact hown.out) (by omega) (by omega) ?_))
      intro v9 w9 hown9 hb9
      replace hown := hidI hown9
      replace hgW := hidI (grown_below hgW.out hb9)
      have hL9 : (L2 ++ [t - 1]).length ≤ 10 := by rw [List.length_append, List.length_singleton]; omega
      clear hown9 hb9 hdW
      obtain ⟨L9, hL9e⟩ := exq (L2 ++ [t - 1])
      rw [← hL9e] at hL9 hown
      replace hL9e := hidI hL9e
      have hXz := (hgW.out.block X (by omega) (fun e => by cases e; omega)).trans hXC.out
      have hRz := (hgW.out.block w.heap.size (by omega) (fun e => by cases e; omega)).trans hR5.out
      obtain ⟨q0, q1, q2⟩ := cell3 hXz
      obtain ⟨y0, y1, y2⟩ := cell3 hRz
      have f2 := fun j => frozen_of_row w9 w.heap.size j _ _ hRz
      simp at q0 q1 q2 y0 y1 y2
      have hfz := fin.out w9 v9 L9 hgW.out hown.out (by omega)
      have hset := set3 hRz (.int .i64 r) (.int .i64 s) (.slice x n c)
      replace hfz := hidI hfz
      replace hset := hidI hset
      replace hXz := hidI hXz
      replace hRz := hidI hRz
      go_wp2
      (try simp only [Exit.inBlock, Exit.then])
      refine ret_cell2 (x := v9) rfl rfl rfl hset.out Tryz.underlying26 sizeGraph ?_
      exact hfz.out
  case pos =>
   by_cases hk8 : k < 8
   case neg =>
    have hk8' : k = 8 := by omega
    subst hk8'
    replace hk := hidI hk
    obtain ⟨ua, uc, hu⟩ : ∃ a c, u6 = Value.slice a L.length c := by
     obtain ⟨_, ⟨h1, h2⟩ | ⟨g, cap, cur, h1, _⟩⟩ := hown.out
     · exact ⟨none, 0, by rw [h1, h2]⟩
     · exact ⟨_, _, h1⟩
    subst hu
    obtain ⟨m, hm9⟩ := exq L.length
    rw [← hm9] at hown hlL ⊢
    by_cases hm1 : 1 < m
    case neg =>
     have hmi : ¬ (1 : Int) < (m : Int) := by omega
     have hlL2 : L.length ≤ 9 := by omega
     replace hm9 := hidI hm9
     have hon9 := once_in hdW.out 10 10 rfl (by omega) (by omega)
     go_wp2_with fail
     refine hon9.mono ?_
     rintro e wy ⟨q9, rfl, hgy, hdy⟩
     clear hon9
     replace hown := hidI (hown.out.kept hgy (by omega))
     replace hgW := hidI (grown_trans hgW.out hgy)
     replace hdW := hidI hdy
     clear hgy hdy
     have hswy := hgW.out.size
     cases q9 with
     | false =>
      have hXz := (hgW.out.block X (by omega) (fun e => by cases e; omega)).trans hXC.out
      have hRz := (hgW.out.block w.heap.size (by omega) (fun e => by cases e; omega)).trans hR5.out
      obtain ⟨q0, q1, q2⟩ := cell3 hXz
      obtain ⟨y0, y1, y2⟩ := cell3 hRz
      have f2 := fun j => frozen_of_row wy w.heap.size j _ _ hRz
      simp at q0 q1 q2 y0 y1 y2
      have hfz := fin.out wy (.slice ua m uc) L hgW.out hown.out (by omega)
      have hset := set3 hRz (.int .i64 r) (.int .i64 s) (.slice x n c)
      replace hfz := hidI hfz
      replace hset := hidI hset
      replace hXz := hidI hXz
      replace hRz := hidI hRz
      go_wp2
      (try simp only [Exit.inBlock, Exit.then])
      refine ret_cell2 (x := (.slice ua m uc)) rfl rfl rfl hset.out Tryz.underlying26 sizeGraph ?_
      exact hfz.out
     | true =>
      have hbe := below_in hdW.out 9 9 rfl (by omega) (by omega)
      go_wp2_with fail
      refine hbe.mono ?_
      rintro e wz ⟨t, ⟨tA, tB⟩, rfl, hgz, hdz⟩
      clear hbe
      replace hown := hidI (hown.out.kept hgz (by omega))
      replace hgW := hidI (grown_trans hgW.out hgz)
      replace hdW := hidI hdz
      clear hgz hdz
      have hswz := hgW.out.size
      go_wp2_with (at_builtin; go_must (refine wpList_pushI rfl _ _ rfl w5.heap.size _ L _ rfl rfl (by exact hown.out) (by omega) (by omega) ?_))
      intro v9 w9 hown9 hb9
      replace hown := hidI hown9
      replace hgW := hidI (grown_below hgW.out hb9)
      have hL9 : (L ++ [t - 1]).length ≤ 10 := by rw [List.length_append, List.length_singleton]; omega
      clear hown9 hb9 hdW
      obtain ⟨L9, hL9e⟩ := exq (L ++ [t - 1])
      rw [← hL9e] at hL9 hown
      replace hL9e := hidI hL9e
      have hXz := (hgW.out.block X (by omega) (fun e => by cases e; omega)).trans hXC.out
      have hRz := (hgW.out.block w.heap.size (by omega) (fun e => by cases e; omega)).trans hR5.out
      obtain ⟨q0, q1, q2⟩ := cell3 hXz
      obtain ⟨y0, y1, y2⟩ := cell3 hRz
      have f2 := fun j => frozen_of_row w9 w.heap.size j _ _ hRz
      simp at q0 q1 q2 y0 y1 y2
      have hfz := fin.out w9 v9 L9 hgW.out hown.out (by omega)
      have hset := set3 hRz (.int .i64 r) (.int .i64 s) (.slice x n c)
      replace hfz := hidI hfz
      replace hset := hidI hset
      replace hXz := hidI hXz
      replace hRz := hidI hRz
      go_wp2
      (try simp only [Exit.inBlock, Exit.then])
      refine ret_cell2 (x := v9) rfl rfl rfl hset.out Tryz.underlying26 sizeGraph ?_
      exact hfz.out
    case pos =>
     have hmi : (1 : Int) < (m : Int) := by omega
     have hlL2 : L.length ≤ 9 := by omega
     replace hm9 := hidI hm9
     have hon9 := once_in hdW.out 2 2 rfl (by omega) (by omega)
     go_wp2_with fail
     refine hon9.mono ?_
     rintro e w2y ⟨q9, rfl, hgy, hdy⟩
     clear hon9
     replace hown := hidI (hown.out.kept hgy (by omega))
     replace hgW := hidI (grown_trans hgW.out hgy)
     replace hdW := hidI hdy
     clear hgy hdy
     have hsw2y := hgW.out.size
     cases q9 with
     | false =>
      have hon9 := once_in hdW.out 10 10 rfl (by omega) (by omega)
      go_wp2_with fail
      refine hon9.mono ?_
      rintro e wy ⟨q9, rfl, hgy, hdy⟩
      clear hon9
      replace hown := hidI (hown.out.kept hgy (by omega))
      replace hgW := hidI (grown_trans hgW.out hgy)
      replace hdW := hidI hdy
      clear hgy hdy
      have hswy := hgW.out.size
      cases q9 with
      | false =>
       have hXz := (hgW.out.block X (by omega) (fun e => by cases e; omega)).trans hXC.out
       have hRz := (hgW.out.block w.heap.size (by omega) (fun e => by cases e; omega)).trans hR5.out
       obtain ⟨q0, q1, q2⟩ := cell3 hXz
       obtain ⟨y0, y1, y2⟩ := cell3 hRz
       have f2 := fun j => frozen_of_row wy w.heap.size j _ _ hRz
       simp at q0 q1 q2 y0 y1 y2
       have hfz := fin.out wy (.slice ua m uc) L hgW.out hown.out (by omega)
       have hset := set3 hRz (.int .i64 r) (.int .i64 s) (.slice x n c)
       replace hfz := hidI hfz
       replace hset := hidI hset
       replace hXz := hidI hXz
       replace hRz := hidI hRz
       go_wp2
       (try simp only [Exit.inBlock, Exit.then])
       refine ret_cell2 (x := (.slice ua m uc)) rfl rfl rfl hset.out Tryz.underlying26 sizeGraph ?_
       exact hfz.out
      | true =>
       have hbe := below_in hdW.out 9 9 rfl (by omega) (by omega)
       go_wp2_with fail
       refine hbe.mono ?_
       rintro e wz ⟨t, ⟨tA, tB⟩, rfl, hgz, hdz⟩
       clear hbe
       replace hown := hidI (hown.out.kept hgz (by omega))
       replace hgW := hidI (grown_trans hgW.out hgz)
       replace hdW := hidI hdz
       clear hgz hdz
       have hswz := hgW.out.size
       go_wp2_with (at_builtin; go_must (refine wpList_pushI rfl _ _ rfl w5.heap.size _ L _ rfl rfl (by exact hown.out) (by omega) (by omega) ?_))
       intro v9 w9 hown9 hb9
       replace hown := hidI hown9
       replace hgW := hidI (grown_below hgW.out hb9)
       have hL9 : (L ++ [t - 1]).length ≤ 10 := by rw [List.length_append, List.length_singleton]; omega
       clear hown9 hb9 hdW
       obtain ⟨L9, hL9e⟩ := exq (L ++ [t - 1])
       rw [← hL9e] at hL9 hown
       replace hL9e := hidI hL9e
       have hXz := (hgW.out.block X (by omega) (fun e => by cases e; omega)).trans hXC.out
       have hRz := (hgW.out.block w.heap.size (by omega) (fun e => by cases e; omega)).trans hR5.out
       obtain ⟨q0, q1, q2⟩ := cell3 hXz
       obtain ⟨y0, y1, y2⟩ := cell3 hRz
       have f2 := fun j => frozen_of_row w9 w.heap.size j _ _ hRz
       simp at q0 q1 q2 y0 y1 y2
       have hfz := fin.out w9 v9 L9 hgW.out hown.out (by omega)
       have hset := set3 hRz (.int .i64 r) (.int .i64 s) (.slice x n c)
       replace hfz := hidI hfz
       replace hset := hidI hset
       replace hXz := hidI hXz
       replace hRz := hidI hRz
       go_wp2
       (try simp only [Exit.inBlock, Exit.then])
       refine ret_cell2 (x := v9) rfl rfl rfl hset.out Tryz.underlying26 sizeGraph ?_
       exact hfz.out
     | true =>
      replace hm9 := hm9.out
      obtain ⟨gl, lcap, hul, hgl1, hgl2, hglc⟩ := ownI_form hown.out (by omega)
      rw [← hm9] at hul hglc
      simp only [Value.slice.injEq, true_and] at hul
      obtain ⟨rfl, rfl⟩ := hul
      have hrd := (hown.out.row (by omega)).read
      obtain ⟨lb, lo9, hab, hlb, hcl⟩ := hrd.at2 0 (by omega)
      simp only [Option.some.injEq, Addr.mk.injEq, and_true] at hab
      obtain ⟨rfl, rfl⟩ := hab
      have hrt : ReadI w2y.heap.size w2y (.slice (some ⟨gl, 1, none⟩) (m - 1) (uc - 1)) (L.drop 1) := by
       obtain ⟨_, a9, c9, hv9, _, hz9 | ⟨b9, o9, e9, hb9, hc9⟩⟩ := hrd
       · rw [hz9] at hm9; simp at hm9; omega
       · simp only [Value.slice.injEq] at hv9
         obtain ⟨e1, _, e3⟩ := hv9
         rw [e9] at e1
         simp only [Option.some.injEq, Addr.mk.injEq, and_true] at e1
         obtain ⟨rfl, rfl⟩ := e1
         refine ⟨by rw [List.length_drop]; omega, _, _, by rw [List.length_drop, ← hm9], ⟨(fun e => by cases e), by rw [List.length_drop]; omega⟩, .inr ⟨gl, 1, rfl, hb9, fun i hi => ?_⟩⟩
         rw [List.length_drop] at hi
         have := hc9 (1 + i) (by omega)
         rw [Nat.zero_add] at this
         rw [this, List.getD_eq_getElem?_getD, List.getD_eq_getElem?_getD, List.getElem?_drop]
      have hbl : Below w2y.heap.size w2y (w2y.alloc (.cells #[] 3)) := (Below.refl _ _).alloc (Nat.le_refl _) _
      have hol := hidI (OwnsI.lit w2y)
      have hrl := hidI (hrt.below hbl)
      have hcl1 := below_cell hcl hbl hlb
      have hdL : (L.drop 1).length ≤ 8 := by rw [List.length_drop]; omega
      have hdl2 : (L.drop 1).length + 1 = m := by rw [List.length_drop]; omega
      obtain ⟨Lt, hLt⟩ := exq (L.drop 1)
      rw [← hLt] at hrl hdL hdl2
      obtain ⟨z0, hz0⟩ := exq (L.getD 0 0)
      rw [← hz0] at hcl hcl1
      have hm1' : ¬ m = 1 := by omega
      have huc1 : ¬ uc = 1 := by omega
      have hm1'' : 1 ≤ m := by omega
      replace hm9 := hidI hm9
      replace hrd := hidI hrd
      replace hrt := hidI hrt
      replace hLt := hidI hLt
      replace hz0 := hidI hz0
      replace hdl2 := hidI hdl2
      go_wp2_with (at_builtin; go_must (refine wpList_pushAllI rfl _ _ rfl w2y.heap.size _ _ [] Lt w2y.heap.size rfl rfl (by exact hol.out) (by exact hrl.out) (by simp; omega) (by simp) ?_))
      intro v8 w8 hown8 hb8
      try rw [List.nil_append] at hown8
      have hb28 := hbl.trans hb8
      have hcl8 := below_cell hcl hb28 hlb
      have hsz8 := hb28.size
      replace hown8 := hidI hown8
      replace hb28 := hidI hb28
      clear hb8 hcl hcl1 hbl
      go_wp2_with (at_builtin; go_must (refine wpList_pushI rfl _ _ rfl w2y.heap.size _ Lt _ rfl rfl (by exact hown8.out) (by omega) hsz8 ?_))
      intro v9 w9 hown9 hb9
      have hb29 := hb28.out.trans hb9
      have hown0 := hown9.mono (show w5.heap.size ≤ w2y.heap.size by omega)
      obtain ⟨L2, hL2⟩ := exq (Lt ++ [z0])
      have hl2 : L2.length ≤ 9 := by rw [hL2, List.length_append, List.length_singleton]; omega
      rw [← hL2] at hown0
      replace hL2 := hidI hL2
      replace hown := hidI hown0
      replace hgW := hidI (grown_below hgW.out (hb29.mono (by omega)))
      replace hdW := hidI (hdW.out.over (hb29.mono (show w5.heap.size ≤ w2y.heap.size by omega)) hgb)
      clear hown9 hb9 hb29 hown0 hcl8
      have hsw9 := hgW.out.size
      obtain ⟨va9, vm9, vc9, hv9⟩ : ∃ a m c, v9 = Value.slice a m c := by
       obtain ⟨_, ⟨h1, h2⟩ | ⟨g, cap, cur, h1, _⟩⟩ := hown.out
       · exact ⟨none, 0, 0, h1⟩
       · exact ⟨_, _, _, h1⟩
      subst hv9
      have hon9 := once_in hdW.out 10 10 rfl (by omega) (by omega)
      go_wp2_with fail
      refine hon9.mono ?_
      rintro e wy ⟨q9, rfl, hgy, hdy⟩
      clear hon9
      replace hown := hidI (hown.out.kept hgy (by omega))
      replace hgW := hidI (grown_trans hgW.out hgy)
      replace hdW := hidI hdy
      clear hgy hdy
      have hswy := hgW.out.size
      cases q9 with
      | false =>
       have hXz := (hgW.out.block X (by omega) (fun e => by cases e; omega)).trans hXC.out
       have hRz := (hgW.out.block w.heap.size (by omega) (fun e => by cases e; omega)).trans hR5.out
       obtain ⟨q0, q1, q2⟩ := cell3 hXz
       obtain ⟨y0, y1, y2⟩ := cell3 hRz
       have f2 := fun j => frozen_of_row wy w.heap.size j _ _ hRz
       simp at q0 q1 q2 y0 y1 y2
       have hfz := fin.out wy (.slice va9 vm9 vc9) L2 hgW.out hown.out (by omega)
       have hset := set3 hRz (.int .i64 r) (.int .i64 s) (.slice x n c)
       replace hfz := hidI hfz
       replace hset := hidI hset
       replace hXz := hidI hXz
       replace hRz := hidI hRz
       go_wp2
       (try simp only [Exit.inBlock, Exit.then])
       refine ret_cell2 (x := (.slice va9 vm9 vc9)) rfl rfl rfl hset.out Tryz.underlying26 sizeGraph ?_
       exact hfz.out
      | true =>
       have hbe := below_in hdW.out 9 9 rfl (by omega) (by omega)
       go_wp2_with fail
       refine hbe.mono ?_
       rintro e wz ⟨t, ⟨tA, tB⟩, rfl, hgz, hdz⟩
       clear hbe
       replace hown := hidI (hown.out.kept hgz (by omega))
       replace hgW := hidI (grown_trans hgW.out hgz)
       replace hdW := hidI hdz
       clear hgz hdz
       have hswz := hgW.out.size
       go_wp2_with (at_builtin; go_must (refine wpList_pushI rfl _ _ rfl w5.heap.size _ L2 _ rfl rfl (by exact hown.out) (by omega) (by omega) ?_))
       intro v9 w9 hown9 hb9
       replace hown := hidI hown9
       replace hgW := hidI (grown_below hgW.out hb9)
       have hL9 : (L2 ++ [t - 1]).length ≤ 10 := by rw [List.length_append, List.length_singleton]; omega
       clear hown9 hb9 hdW
       obtain ⟨L9, hL9e⟩ := exq (L2 ++ [t - 1])
       rw [← hL9e] at hL9 hown
       replace hL9e := hidI hL9e
       have hXz := (hgW.out.block X (by omega) (fun e => by cases e; omega)).trans hXC.out
       have hRz := (hgW.out.block w.heap.size (by omega) (fun e => by cases e; omega)).trans hR5.out
       obtain ⟨q0, q1, q2⟩ := cell3 hXz
       obtain ⟨y0, y1, y2⟩ := cell3 hRz
       have f2 := fun j => frozen_of_row w9 w.heap.size j _ _ hRz
       simp at q0 q1 q2 y0 y1 y2
       have hfz := fin.out w9 v9 L9 hgW.out hown.out (by omega)
       have hset := set3 hRz (.int .i64 r) (.int .i64 s) (.slice x n c)
       replace hfz := hidI hfz
       replace hset := hidI hset
       replace hXz := hidI hXz
       replace hRz := hidI hRz
       go_wp2
       (try simp only [Exit.inBlock, Exit.then])
       refine ret_cell2 (x := v9) rfl rfl rfl hset.out Tryz.underlying26 sizeGraph ?_
       exact hfz.out
   case pos =>
    have hk8i : (k : Int) < 8 := by omega
    have hon := once_in hdW.out 4 4 rfl (by omega) (by omega)
    replace hk := hidI hk
    go_wp2_with fail
    refine hon.mono ?_
    rintro e w7 ⟨q, rfl, hgy, hdy⟩
    clear hon
    replace hown := hidI (hown.out.kept hgy (by omega))
    replace hgW := hidI (grown_trans hgW.out hgy)
    replace hdW := hidI hdy
    clear hgy hdy x0 x1 x2
    have hsw7 := hgW.out.size
    cases q with
    | true =>
     have hst2 := hidI (show ∃ L, OwnsI w7 w5.heap.size u6 L ∧ L.length ≤ k + 1 from ⟨L, hown.out, by omega⟩)
     go_wp2
     go_roundg (8 - (k + 1))
     case rel => exact ⟨k + 1, by have := hk.out; omega, by go_num, hst2, hgW, hdW⟩
     case measure => have := hk.out; omega
    | false =>
     go_wp2_with (at_builtin; go_must (refine wpList_pushI rfl _ _ rfl w5.heap.size _ L _ rfl rfl (by exact hown.out) (by omega) (by omega) ?_))
     intro v' w8 hown8 hb8
     have hst2 := hidI (show ∃ L, OwnsI w8 w5.heap.size v' L ∧ L.length ≤ k + 1 from ⟨_, hown8, by rw [List.length_append, List.length_singleton]; omega⟩)
     replace hgW := hidI (grown_below hgW.out hb8)
     replace hdW := hidI (hdW.out.over hb8 hgb)
     clear hown8 hb8
     go_wp2
     go_roundg (8 - (k + 1))
     case rel => exact ⟨k + 1, by have := hk.out; omega, by go_num, hst2, hgW, hdW⟩
     case measure => have := hk.out; omega
end Go.Proofs.YtlgieefojcgodaaGreat
