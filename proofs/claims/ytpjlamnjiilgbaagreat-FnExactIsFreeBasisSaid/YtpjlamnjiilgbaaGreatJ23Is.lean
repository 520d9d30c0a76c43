import Derived.Conc.MuLone
import Derived.Deep.LoopGhost
import Derived.Deep.RegionHeld3
import Derived.Deep.Cut
import Derived.Test.YtpjlamnjiilgbaaGreatJ22Is
import Derived.Test.YtpjlamnjiilgbaaGreatJ12Is
import Derived.Test.YtpjlamnjiilgbaaGreatLocks
namespace Go.Proofs.YtpjlamnjiilgbaaGreat
open Go.RowKit Go.MuLone
set_option linter.unusedVariables false
set_option linter.unusedSimpArgs false
theorem VSt.congr {w : World} {S : Nat} {P : Nat → Nat} {num num' : Nat → Int} {par : Nat → Option Nat} (h : VSt w S P num par) (he : ∀ i, i < S → num i = num' i) : VSt w S P num' par := fun i hi => by rw [← he i hi]; exact h i hi
def numJ (num nm : Nat → Int) (par : Nat → Option Nat) (d : Nat) (j : Nat) (i : Nat) : Int := if par i = none ∧ (d : Int) < nm i ∧ nm i ≤ (d : Int) + (j : Int) then num i - 1 else num i
def lnk (par : Nat → Option Nat) (x y : Nat) (i : Nat) : Option Nat := if i = x then some y else par i
def lsD (ls : List Nat) (d K1 : Nat) : List Nat := (List.range K1).map fun q => if q < d then ls.getD q 0 else ls.getD (q + 1) 0
theorem lsD_at {ls : List Nat} {d K1 q : Nat} (h : q < K1) : (lsD ls d K1).getD q 0 = if q < d then ls.getD q 0 else ls.getD (q + 1) 0 := by
 unfold lsD
 rw [List.getD_eq_getElem?_getD, List.getElem?_map, List.getElem?_range h]
 rfl
theorem newV_lt {k d v : Int} (h : v < d) : newV k d v = v := by unfold newV; rw [if_neg (show ¬ v = d by omega)]; rw [if_neg (by omega)]
theorem newV_eq {k d : Int} (h : k < d) : newV k d d = k := by unfold newV; rw [if_pos rfl]; rw [if_neg (by omega)]
theorem newV_gt {k d v : Int} (h : d < v) : newV k d v = v - 1 := by unfold newV; rw [if_neg (show ¬ v = d by omega)]; rw [if_pos (by omega)]
theorem merge_ls {w wE : World} {D : MgD} {nm num : Nat → Int} {K1 k d : Nat} {cur cur' : Array Value} {ls : List Nat} {par : Nat → Option Nat} {dep : Nat → Nat} (h : MgLs w D nm (K1 + 1) cur ls num par dep) (hkd : k < d) (hd : d < K1 + 1)
 (hrow : wE.heap[D.gl]? = some (.cells cur' 212 (0, 0))) (hat : ∀ q, q < K1 → cur'[q]? = some (encP (some (D.P (if q < d then ls.getD q 0 else ls.getD (q + 1) 0)))))
 (hv : VSt wE D.S D.P (numJ num nm par d (K1 - d)) (lnk par (ls.getD d 0) (ls.getD k 0))) :
 MgLs wE D (fun i => newV k d (nm i)) K1 cur' (lsD ls d K1) (numJ num nm par d (K1 - d)) (lnk par (ls.getD d 0) (ls.getD k 0)) (fun i => if nm i = d then dep i + 1 else dep i) := by
 have hx := h.left d hd
 have hy := h.left k (by omega)
 have hroot : ∀ i, i < D.S → lnk par (ls.getD d 0) (ls.getD k 0) i = none → par i = none ∧ nm i ≠ d := fun i hi hn => by
  unfold lnk at hn
  by_cases hix : i = ls.getD d 0
  · rw [if_pos hix] at hn; cases hn
  · rw [if_neg hix] at hn
    refine ⟨hn, fun e => hix ?_⟩
    have := (h.root i hi hn).2.2
    rw [e, Int.toNat_natCast] at this
    exact this.symm
 refine ⟨hrow, by simp [lsD], by have := h.kS; omega, fun q hq => by rw [hat q hq, lsD_at hq], hv, fun i j hi hij => ?_, fun i hi hn => ?_, fun i hi => ?_, fun q hq => ?_⟩
 · unfold lnk at hij
   by_cases hix : i = ls.getD d 0
   · rw [if_pos hix] at hij
     obtain rfl := Option.some.inj hij
     subst hix
     refine ⟨hy.1, ?_, ?_⟩
     · show newV k d (nm (ls.getD k 0)) = newV k d (nm (ls.getD d 0))
       rw [hx.2.2, hy.2.2, newV_lt (by omega), newV_eq (by omega)]
     · show (if nm (ls.getD k 0) = d then _ else _) < (if nm (ls.getD d 0) = d then _ else _)
       rw [hx.2.2, hy.2.2, if_neg (by omega), if_pos rfl, (h.root _ hy.1 hy.2.1).2.1]
       omega
   · rw [if_neg hix] at hij
     obtain ⟨h1, h2, h3⟩ := h.lst i j hi hij
     refine ⟨h1, ?_, ?_⟩
     · show newV k d (nm j) = newV k d (nm i)
       rw [h2]
     · show (if nm j = d then _ else _) < (if nm i = d then _ else _)
       rw [h2]
       split <;> omega
 · obtain ⟨h1, h2⟩ := hroot i hi hn
   obtain ⟨r1, r2, r3⟩ := h.root i hi h1
   obtain ⟨n1, n2⟩ := h.nms i hi
   refine ⟨?_, ?_, ?_⟩
   · unfold numJ
     rcases Int.lt_or_gt_of_ne h2 with hl | hl
     · rw [if_neg (fun hh => by omega), newV_lt hl]; exact r1
     · rw [if_pos ⟨h1, hl, by omega⟩, newV_gt hl, r1]
   · show (if nm i = d then _ else _) = 0
     rw [if_neg h2]; exact r2
   · rcases Int.lt_or_gt_of_ne h2 with hl | hl
     · rw [newV_lt hl, lsD_at (by omega), if_pos (by omega)]; exact r3
     · rw [newV_gt hl, lsD_at (by omega), if_neg (by omega), show (nm i - 1).toNat + 1 = (nm i).toNat by omega]; exact r3
 · obtain ⟨n1, n2⟩ := h.nms i hi
   have := newV_in (s := ((K1 + 1 : Nat) : Int)) (k := k) (d := d) (v := nm i) (by omega) (by omega) (by omega) ⟨n1, n2⟩
   refine ⟨this.1, ?_⟩
   have h2 := this.2
   push_cast at h2
   omega
 · rw [lsD_at hq]
   by_cases hqd : q < d
   · rw [if_pos hqd]
     obtain ⟨l1, l2, l3⟩ := h.left q (by omega)
     refine ⟨l1, ?_, ?_⟩
     · unfold lnk
       rw [if_neg (fun e => by rw [e, hx.2.2] at l3; omega)]; exact l2
     · show newV k d (nm _) = q
       rw [l3, newV_lt (by omega)]
   · rw [if_neg hqd]
     obtain ⟨l1, l2, l3⟩ := h.left (q + 1) (by omega)
     refine ⟨l1, ?_, ?_⟩
     · unfold lnk
       rw [if_neg (fun e => by rw [e, hx.2.2] at l3; push_cast at l3; omega)]; exact l2
     · show newV k d (nm _) = q
       rw [l3, newV_gt (by push_cast; omega)]
       push_cast; omega
def MergeRet (D : MgD) (r s : Int) (ev : Value) (nm : Nat → Int) (K k d : Nat) (w : World) (e : Ending) (w' : World) : Prop :=
 e = .returned (.tuple #[]) ∧ MgSt w' D r s ev (fun i => newV k d (nm i)) (K - 1) ∧ MgOff D w w'
theorem MgOff.drew {D : MgD} {w : World} : MgOff D w w.drew := ⟨rfl, rfl, rfl, Nat.le_refl _, fun _ _ _ _ _ => rfl⟩
theorem MgOff.setMb' {D : MgD} {w : World} {M : Nat} (hM : M = D.Mb) (c : Nat) (v : Value) : MgOff D w (w.setCell ⟨M, c, none⟩ v) := by subst hM; exact MgOff.setMb c v
theorem MgOff.setP' {D : MgD} {w : World} {i X : Nat} (hX : X = D.P i) (hi : i < D.S) (c : Nat) (v : Value) : MgOff D w (w.setCell ⟨X, c, none⟩ v) := by subst hX; exact MgOff.setP hi c v
set_option maxRecDepth 100000 in
set_option maxHeartbeats 6400000 in
theorem mergeV_any (w : World) (D : MgD) (base : Nat) (r s : Int) (ev : Value) (nm : Nat → Int) (K k d : Nat) (h : MgSt w D r s ev nm K) (ho : MgOk D base w.heap.size) (hkd : k < d) (hd : d < K) :
 Calls Tryz.prog 197 #[.pointer (some ⟨D.Mb, 0, none⟩), .agg #[.int .i64 (k : Int), .int .i64 (d : Int)]] w (MergeRet D r s ev nm K k d w) := by
 obtain ⟨K1, rfl⟩ : ∃ K1, K = K1 + 1 := ⟨K - 1, by omega⟩
 obtain ⟨hbox, hvs, cur, ls, num, par, dep, hls⟩ := h
 obtain ⟨M, hM⟩ := exq D.Mb
 obtain ⟨G, hG⟩ := exq D.gl
 obtain ⟨cl, hcl⟩ := exq D.cl
 obtain ⟨x, hx⟩ := exq (ls.getD d 0)
 obtain ⟨y, hy⟩ := exq (ls.getD k 0)
 obtain ⟨X, hX⟩ := exq (D.P x)
 obtain ⟨Y, hY⟩ := exq (D.P y)
 have hMl : M < w.heap.size := by rw [hM]; exact ho.mb.2
 have hGl : G < w.heap.size := by rw [hG]; exact ho.gl.2.1
 have hGM : G ≠ M := by rw [hG, hM]; exact ho.gl.2.2.1
 have hxd := hls.left d hd
 have hyk := hls.left k (by omega)
 rw [← hx] at hxd
 rw [← hy] at hyk
 have hXp := ho.p x hxd.1
 rw [← hX, ← hM, ← hG] at hXp
 have hK40 : K1 + 1 ≤ 40 := by have := hls.kS; have := ho.s.2.1; omega
 have hKcl : K1 + 1 ≤ cl := by have := hls.kS; have := ho.s.2.2.2.1; omega
 have hclm : cl ≤ maxLen := by rw [hcl]; exact ho.s.2.2.2.2
 obtain ⟨w1, hw1⟩ := exq (w.alloc (.cells #[.int .i64 (k : Int), .int .i64 (d : Int)] 167))
 have hb1 : Below w.heap.size w w1 := by rw [hw1]; exact (Below.refl _ _).alloc (Nat.le_refl _) _
 have hs1 : w1.heap.size = w.heap.size + 1 := by rw [hw1]; simp
 have hk1 := heap_alloc_new w (.cells #[.int .i64 (k : Int), .int .i64 (d : Int)] 167)
 rw [← hw1] at hk1
 have hbox1 := (hb1.block D.Mb (by rw [← hM]; exact hMl)).trans hbox
 rw [← hM] at hbox1
 unfold MgBox at hbox1
 rw [← hG, ← hcl] at hbox1
 have c3 : w1.cell? ⟨M, 3, none⟩ = some (.int .i32 0) := by simpa using cell_of_heap hbox1 3
 have f3 := frozen_of_row w1 M 3 _ _ hbox1
 obtain ⟨w2, hw2⟩ := exq (w1.setCell ⟨M, 3, none⟩ (.int .i32 1))
 have hbox2 := heap_setCell_same w1 M 3 _ _ (.int .i32 1) hbox1
 rw [← hw2] at hbox2
 simp at hbox2
 have hoth2 : ∀ b, b ≠ M → w2.heap[b]? = w1.heap[b]? := fun b hb => by rw [hw2]; exact Below.heap_setCell _ _ _ _ hb
 have hs2 : w2.heap.size = w.heap.size + 1 := by rw [hw2]; simp [World.setCell]; exact hs1
 have hrow2 : w2.heap[G]? = some (.cells cur 212 (0, 0)) := by rw [hoth2 G hGM, hb1.block G hGl, hG]; exact hls.row
 have hk2 : w2.heap[w.heap.size]? = some (.cells #[.int .i64 (k : Int), .int .i64 (d : Int)] 167 (0, 0)) := by rw [hoth2 _ (by omega)]; exact hk1
 have hv2 : VSt w2 D.S D.P num par := hls.vst.keep (fun i hi => by
  have hp := ho.p i hi
  rw [← hM] at hp
  rw [hoth2 _ hp.2.2.1, hb1.block _ hp.2.1])
 have hvs2 : ∀ i, i < D.S → w2.cell? ⟨D.gv, i, none⟩ = some (encP (some (D.P i))) := fun i hi => by
  have := ho.gv
  rw [← hM] at this
  rw [World.cell?_of_block (w := w1) (a := ⟨D.gv, i, none⟩) (hoth2 D.gv this.2.2)]
  exact below_cell (hvs i hi) hb1 this.2.1
 have hoff2 : MgOff D w w2 := (MgOff.of_below hb1).trans (by rw [hw2]; exact MgOff.setMb' hM _ _)
 obtain ⟨u0, hu0⟩ := exq w2.drew
 obtain ⟨w3, hw3⟩ := exq (u0.setCell ⟨X, 1, none⟩ (.pointer (some ⟨Y, 0, none⟩)))
 have hd0 : u0.heap = w2.heap := by rw [hu0]; rfl
 have hXh : u0.heap[X]? = some (.cells #[.int .i64 (num x), .pointer none] 214 (0, 0)) := by
  have := hv2 x hxd.1
  rw [hxd.2.1, ← hX] at this
  rw [hd0]; exact this
 have hoth3 : ∀ b, b ≠ X → w3.heap[b]? = u0.heap[b]? := fun b hb => by rw [hw3]; exact Below.heap_setCell _ _ _ _ hb
 have hbox2' := hbox2
 rw [← hd0] at hbox2'
 have hrow2' := hrow2
 rw [← hd0] at hrow2'
 have hk2' := hk2
 rw [← hd0] at hk2'
 have hXw : X ≠ w.heap.size := by have := hXp.2.1; omega
 have hbox3 := (hoth3 M (Ne.symm hXp.2.2.1)).trans hbox2'
 have hrow3 := (hoth3 G (Ne.symm hXp.2.2.2.1)).trans hrow2'
 have hk3 := (hoth3 w.heap.size (Ne.symm hXw)).trans hk2'
 have hv3 : VSt w3 D.S D.P num (lnk par x y) := by
  have h1 : VSt u0 D.S D.P num par := hv2.keep (fun i hi => by rw [hd0])
  have h2 := h1.link ho.inj hxd.1 (q := y)
  rw [← hX, ← hY] at h2
  rw [hw3]
  exact h2
 have hvs3 : ∀ i, i < D.S → w3.cell? ⟨D.gv, i, none⟩ = some (encP (some (D.P i))) := fun i hi => by
  have hp := (ho.p x hxd.1).2.2.2.2
  rw [← hX] at hp
  rw [World.cell?_of_block (w := u0) (a := ⟨D.gv, i, none⟩) (hoth3 D.gv (Ne.symm hp)), World.cell?_of_block (w := w2) (a := ⟨D.gv, i, none⟩) (by rw [hd0])]
  exact hvs2 i hi
 have hoff3 : MgOff D w w3 := hoff2.trans ((MgOff.drew.trans (by rw [← hu0, hw3]; exact MgOff.setP' hX hxd.1 _ _)))
 have a0 : u0.cell? ⟨w.heap.size, 0, none⟩ = some (.int .i64 (k : Int)) := by simpa using cell_of_heap hk2' 0
 have a1 : u0.cell? ⟨w.heap.size, 1, none⟩ = some (.int .i64 (d : Int)) := by simpa using cell_of_heap hk2' 1
 have a2 : u0.cell? ⟨M, 6, none⟩ = some (.slice (some ⟨G, 0, none⟩) (K1 + 1) cl) := by simpa using cell_of_heap hbox2' 6
 have a3 : u0.cell? ⟨G, d, none⟩ = some (.pointer (some ⟨X, 0, none⟩)) := by rw [cell_of_heap hrow2' d, hls.at_ d hd, ← hx, ← hX]; rfl
 have a4 : u0.cell? ⟨G, k, none⟩ = some (.pointer (some ⟨Y, 0, none⟩)) := by rw [cell_of_heap hrow2' k, hls.at_ k (by omega), ← hy, ← hY]; rfl
 have b0 : w3.cell? ⟨w.heap.size, 0, none⟩ = some (.int .i64 (k : Int)) := by simpa using cell_of_heap hk3 0
 have b1 : w3.cell? ⟨w.heap.size, 1, none⟩ = some (.int .i64 (d : Int)) := by simpa using cell_of_heap hk3 1
 have b2 : w3.cell? ⟨M, 6, none⟩ = some (.slice (some ⟨G, 0, none⟩) (K1 + 1) cl) := by simpa using cell_of_heap hbox3 6
 have b3 : w3.cell? ⟨G, d, none⟩ = some (.pointer (some ⟨X, 0, none⟩)) := by rw [cell_of_heap hrow3 d, hls.at_ d hd, ← hx, ← hX]; rfl
 have b4 : w3.cell? ⟨G, k, none⟩ = some (.pointer (some ⟨Y, 0, none⟩)) := by rw [cell_of_heap hrow3 k, hls.at_ k (by omega), ← hy, ← hY]; rfl
 have x1 : u0.cell? ⟨X, 1, none⟩ = some (.pointer none) := by simpa using cell_of_heap hXh 1
 have fx := frozen_of_row u0 X 1 _ _ hXh
 obtain ⟨u1, hu1⟩ := exq w3.drew
 have hd1 : u1.heap = w3.heap := by rw [hu1]; rfl
 have hrow4 : u1.heap[G]? = some (.cells cur 212 (0, 0)) := by rw [hd1]; exact hrow3
 have hbox4 := hbox3
 rw [← hd1] at hbox4
 have m6 : u1.cell? ⟨M, 6, none⟩ = some (.slice (some ⟨G, 0, none⟩) (K1 + 1) cl) := by simpa using cell_of_heap hbox4 6
 have e1 : u1.cell? ⟨w.heap.size, 1, none⟩ = some (.int .i64 (d : Int)) := by rw [hu1]; exact b1
 obtain ⟨xs, hxs⟩ : ∃ xs : List (Option Nat), xs = ls.map (fun i => some (D.P i)) := ⟨_, rfl⟩
 have hxl : xs.length = K1 + 1 := by rw [hxs, List.length_map]; exact hls.len
 have hxg : ∀ q, q < K1 + 1 → xs.getD q none = some (D.P (ls.getD q 0)) := fun q hq => by
  have hq' : q < ls.length := by rw [hls.len]; exact hq
  rw [hxs, List.getD_eq_getElem?_getD, List.getElem?_map, List.getD_eq_getElem?_getD, List.getElem?_eq_getElem hq']
  rfl
 have hdel := deleteV u1 G cl _ cur xs d hrow4 (fun q hq => by rw [hls.at_ q (by omega), hxg q (by omega)]) (by omega) hclm (by omega)
 rw [hxl] at hdel
 have hdi : (d : Int) < ((K1 + 1 : Nat) : Int) := by omega
 have hki : (k : Int) < ((K1 + 1 : Nat) : Int) := by omega
 have hd1w : IntKind.i64.wrap ((d : Int) + 1) = (d : Int) + 1 := IntWalk.i64_in _ (by omega)
 have hdK : d ≤ K1 := by omega
 have hcd : ¬ cl = d := by omega
 have hdc : d ≤ cl := by omega
 obtain ⟨N, hN⟩ : ∃ N, K1 - d = N := ⟨_, rfl⟩
 obtain ⟨C5, hC5⟩ : ∃ z, cl - d = z := ⟨_, rfl⟩
 rw [← hM]
 have hlock := lock_free Tryz.muLib ⟨M, 3, none⟩ w1 c3 f3
 rw [← hw2] at hlock
 obtain ⟨KK, hKK⟩ := exq (K1 + 1)
 rw [← hKK] at hdi hki a2 b2 m6 hdel
 replace hbox := hidI hbox
 replace hvs := hidI hvs
 replace hls := hidI hls
 replace ho := hidI ho
 replace hM := hidI hM
 replace hG := hidI hG
 replace hcl := hidI hcl
 replace hx := hidI hx
 replace hy := hidI hy
 replace hX := hidI hX
 replace hY := hidI hY
 replace hxd := hidI hxd
 replace hyk := hidI hyk
 replace hXp := hidI hXp
 replace hb1 := hidI hb1
 replace hs1 := hidI hs1
 replace hs2 := hidI hs2
 replace hk1 := hidI hk1
 replace hk2 := hidI hk2
 replace hbox1 := hidI hbox1
 replace hbox2 := hidI hbox2
 replace hoth2 := hidI hoth2
 replace hrow2 := hidI hrow2
 replace hv2 := hidI hv2
 replace hvs2 := hidI hvs2
 replace hoff2 := hidI hoff2
 replace hd0 := hidI hd0
 replace hXh := hidI hXh
 replace hoth3 := hidI hoth3
 replace hbox2' := hidI hbox2'
 replace hrow2' := hidI hrow2'
 replace hk2' := hidI hk2'
 replace hbox3 := hidI hbox3
 replace hrow3 := hidI hrow3
 replace hk3 := hidI hk3
 replace hv3 := hidI hv3
 replace hvs3 := hidI hvs3
 replace hoff3 := hidI hoff3
 replace hd1 := hidI hd1
 replace hrow4 := hidI hrow4
 replace hbox4 := hidI hbox4
 replace hxs := hidI hxs
 replace hxl := hidI hxl
 replace hxg := hidI hxg
 replace hKK := hidI hKK
 replace hw2 := hidI hw2
 replace hw3 := hidI hw3
 replace hu0 := hidI hu0
 replace hu1 := hidI hu1
 replace hdel := hidI hdel
 replace hXw := hidI hXw
 clear c3 f3
 go_enter_defers Tryz.func197, Tryz.ntmps197
 go_upto_region 1 with fail
 rw [← hw1]
 replace hw1 := hidI hw1
 go_wp2_with fail
 refine hlock.mono ?_
 rintro e w2 ⟨rfl, rfl⟩
 clear hlock
 go_wp2_with fail
 refine wp_region_noPanic ?_
 refine hideQ (fun _ _ d _ _ h => by cases d <;> exact h) (fun Q' hnorm hpan => ?_)
 refine wp_region_held_drew (S := (fun z => z.cell? ⟨w.heap.size, 0, none⟩ = some (.int .i64 (k : Int)) ∧ z.cell? ⟨w.heap.size, 1, none⟩ = some (.int .i64 (d : Int)) ∧ z.cell? ⟨M, 6, none⟩ = some (.slice (some ⟨G, 0, none⟩) KK cl) ∧ z.cell? ⟨G, d, none⟩ = some (.pointer (some ⟨X, 0, none⟩)) ∧ z.cell? ⟨G, k, none⟩ = some (.pointer (some ⟨Y, 0, none⟩)))) (by kernel_rfl) ?_ (fun hHeld => ?_)
 · try dsimp only
   rw [← hu0.out]
   ((repeat' apply And.intro) <;> assumption)
 rw [← hu0.out] at hHeld ⊢
 refine tk 0 13 ?_
 refine tk 1 14 ?_
 refine tk 2 15 ?_
 refine tk 3 16 ?_
 refine tk 4 17 ?_
 refine tk 5 18 ?_
 refine tk 6 19 ?_
 refine tk 7 20 ?_
 refine tk 8 21 ?_
 refine tk 9 22 ?_
 refine tk 10 23 ?_
 refine tk 11 24 ?_
 refine tk 12 25 ?_
 refine tk 13 26 ?_
 refine tk 14 27 ?_
 refine tk 15 28 ?_
 refine tk 16 29 ?_
 refine tk 17 30 ?_
 refine rd 18 (fun K hK => ?_)
 rw [if_pos (by rfl)]
 go_simp
 rw [← hw3.out]
 refine hK.out _ _ ?_ (fun hHeld => ?_)
 · try dsimp only
   ((repeat' apply And.intro) <;> assumption)
 clear hK
 try simp only [Act.put, lyA, lyB, lyC]
 refine wpAnyH_done (by kernel_rfl) ?_ _
 refine hnorm _ _ ?_
 clear hnorm hpan
 repeat clear hHeld
 refine NoPanic.normal ?_
 try simp only [Exit.then]
 clear a0 a1 a2 a3 a4 x1 fx
 go_wp2_with fail
 refine wp_region_noPanic ?_
 refine hideQ (fun _ _ d _ _ h => by cases d <;> exact h) (fun Q' hnorm hpan => ?_)
 refine wp_region_held_drew (S := (fun z => z.cell? ⟨w.heap.size, 1, none⟩ = some (.int .i64 (d : Int)))) (by kernel_rfl) ?_ (fun hHeld => ?_)
 · try dsimp only
   rw [← hu1.out]
   ((repeat' apply And.intro) <;> assumption)
 rw [← hu1.out] at hHeld ⊢
 refine tk 0 31 ?_
 refine tk 1 32 ?_
 refine tk 2 33 ?_
 refine tk 3 34 ?_
 refine tk 5 36 ?_
 refine tk 6 37 ?_
 refine tk 7 38 ?_
 refine tk 8 39 ?_
 refine tk 9 40 ?_
 refine rd 4 (fun K hK => ?_)
 rw [if_pos (by rfl)]
 go_simp
 refine hK.out _ _ ?_ (fun hHeld => ?_)
 · try dsimp only
   ((repeat' apply And.intro) <;> assumption)
 clear hK
 try simp only [Act.put, lyA, lyB, lyC]
 refine rd 10 (fun K hK => ?_)
 rw [if_pos (by rfl)]
 go_simp
 go_at_call 211
 (with_reducible refine hdel.out.mono ?_)
 rintro e w5 ⟨rfl, ⟨cur', hcr5, hat5⟩, hos5, htp5, hou5, hsz5, hot5⟩
 have hbox5 := (hot5 M (Ne.symm hGM)).trans hbox4.out
 have g5 : w5.cell? ⟨w.heap.size, 1, none⟩ = some (.int .i64 (d : Int)) := (World.cell?_of_block (w := u1) (a := ⟨w.heap.size, 1, none⟩) (hot5 w.heap.size (by omega))).trans e1
 have m5 : w5.cell? ⟨M, 6, none⟩ = some (.slice (some ⟨G, 0, none⟩) (K1 + 1) cl) := by simpa using cell_of_heap hbox5 6
 have f5 := frozen_of_row w5 M 6 _ _ hbox5
 rw [show xs.length - 1 = K1 by rw [hxl.out]; omega]
 obtain ⟨w6, hw6⟩ := exq (w5.setCell ⟨M, 6, none⟩ (.slice (some ⟨G, 0, none⟩) K1 cl))
 have hoth6 : ∀ b, b ≠ M → w6.heap[b]? = w5.heap[b]? := fun b hb => by rw [hw6]; exact Below.heap_setCell _ _ _ _ hb
 have hbox6 := heap_setCell_same w5 M 6 _ _ (.slice (some ⟨G, 0, none⟩) K1 cl) hbox5
 rw [← hw6] at hbox6
 simp at hbox6
 have g6 : w6.cell? ⟨w.heap.size, 1, none⟩ = some (.int .i64 (d : Int)) := (World.cell?_of_block (w := w5) (a := ⟨w.heap.size, 1, none⟩) (hoth6 w.heap.size (by omega))).trans g5
 have hrow6 := (hoth6 G hGM).trans hcr5
 have hk6 : ∀ b, b ≠ M → b ≠ G → w6.heap[b]? = w3.heap[b]? := fun b h1 h2 => by rw [hoth6 b h1, hot5 b h2, hd1.out]
 have hv6 : VSt w6 D.S D.P num (lnk par x y) := hv3.out.keep (fun i hi => by
  have hp := ho.out.p i hi
  rw [← hM.out, ← hG.out] at hp
  exact hk6 _ hp.2.2.1 hp.2.2.2.1)
 have hvs6 : ∀ i, i < D.S → w6.cell? ⟨D.gv, i, none⟩ = some (encP (some (D.P i))) := fun i hi => by
  have h1 := ho.out.gv.2.2
  have h2 := ho.out.gl.2.2.2
  rw [← hM.out] at h1
  rw [← hG.out] at h2
  rw [World.cell?_of_block (w := w3) (a := ⟨D.gv, i, none⟩) (hk6 D.gv h1 (Ne.symm h2))]
  exact hvs3.out i hi
 have hoff6 : MgOff D w w6 := hoff3.out.trans (MgOff.drew.trans (by
  rw [← hu1.out]
  refine MgOff.trans (b := w5) ⟨hos5, htp5, hou5, Nat.le_of_eq hsz5.symm, fun b _ _ h2 _ => hot5 b (by rw [hG.out]; exact h2)⟩ ?_
  rw [hw6]
  exact MgOff.setMb' hM.out _ _))
 have hat6 : ∀ q, q < K1 → cur'[q]? = some (encP (some (D.P (if q < d then ls.getD q 0 else ls.getD (q + 1) 0)))) := fun q hq => by
  rw [hat5 q (by rw [hxl.out]; omega)]
  split
  · rw [hxg.out q (by omega)]
  · rw [hxg.out (q + 1) (by omega)]
 have hs6 : w6.heap.size = w.heap.size + 1 := by
  rw [hw6]
  have h3 : w3.heap.size = w.heap.size + 1 := by rw [hw3.out]; simp only [World.setCell, Array.size_modify]; rw [hd0.out]; exact hs2.out
  simp only [World.setCell, Array.size_modify]
  rw [hsz5, hd1.out]; exact h3
 replace hcr5 := hidI hcr5
 replace hat5 := hidI hat5
 replace hos5 := hidI hos5
 replace htp5 := hidI htp5
 replace hou5 := hidI hou5
 replace hsz5 := hidI hsz5
 replace hot5 := hidI hot5
 replace hbox5 := hidI hbox5
 replace hoth6 := hidI hoth6
 replace hbox6 := hidI hbox6
 replace hrow6 := hidI hrow6
 replace hk6 := hidI hk6
 replace hv6 := hidI hv6
 replace hvs6 := hidI hvs6
 replace hoff6 := hidI hoff6
 replace hat6 := hidI hat6
 replace hs6 := hidI hs6
 refine hK.out _ _ ?_ (fun hHeld => ?_)
 · try dsimp only
   ((repeat' apply And.intro) <;> assumption)
 clear hK
 try simp only [Act.put, lyA, lyB, lyC]
 refine tk 11 42 ?_
 refine tk 12 43 ?_
 refine rd 13 (fun K hK => ?_)
 rw [if_pos (by rfl)]
 go_simp
 rw [← hw6]
 refine hK.out _ _ ?_ (fun hHeld => ?_)
 · try dsimp only
   ((repeat' apply And.intro) <;> assumption)
 clear hK
 try simp only [Act.put, lyA, lyB, lyC]
 refine wpAnyH_done (by kernel_rfl) ?_ _
 refine hnorm _ _ ?_
 clear hnorm hpan
 repeat clear hHeld
 refine NoPanic.normal ?_
 try simp only [Exit.then]
 replace hw6 := hidI hw6
 clear b0 b1 b2 b3 b4 m6 e1 g5 m5 f5
 obtain ⟨u2, hu2⟩ := exq w6.drew
 have n6 : u2.cell? ⟨M, 6, none⟩ = some (.slice (some ⟨G, 0, none⟩) K1 cl) := by rw [hu2]; simpa using cell_of_heap hbox6.out 6
 have n1 : u2.cell? ⟨w.heap.size, 1, none⟩ = some (.int .i64 (d : Int)) := by rw [hu2]; exact g6
 replace hu2 := hidI hu2
 go_wp2_with fail
 refine wp_region_noPanic ?_
 refine hideQ (fun _ _ d _ _ h => by cases d <;> exact h) (fun Q' hnorm hpan => ?_)
 refine wp_region_held_drew (S := (fun z => z.cell? ⟨M, 6, none⟩ = some (.slice (some ⟨G, 0, none⟩) K1 cl) ∧ z.cell? ⟨w.heap.size, 1, none⟩ = some (.int .i64 (d : Int)))) (by kernel_rfl) ?_ (fun hHeld => ?_)
 · try dsimp only
   rw [← hu2.out]
   ((repeat' apply And.intro) <;> assumption)
 rw [← hu2.out] at hHeld ⊢
 refine tk 0 44 ?_
 refine tk 1 45 ?_
 refine tk 2 46 ?_
 refine tk 3 47 ?_
 refine tk 4 48 ?_
 refine tk 5 49 ?_
 refine tk 6 50 ?_
 refine tk 7 51 ?_
 refine tk 8 52 ?_
 refine wpAnyH_done (by kernel_rfl) ?_ _
 refine hnorm _ _ ?_
 clear hnorm hpan
 repeat clear hHeld
 refine NoPanic.normal ?_
 try simp only [Exit.then]
 clear n6 n1 g6
 have hh2 : u2.heap = w6.heap := by rw [hu2.out]; rfl
 have hsu2 : u2.heap.size = w.heap.size + 1 := by rw [hh2]; exact hs6.out
 have hst0 : Hid (VSt u2 D.S D.P (numJ num nm par d 0) (lnk par x y)) := hidI ((hv6.out.keep (fun i hi => by rw [hh2])).congr (fun i hi => by unfold numJ; rw [if_neg (fun h => by omega)]))
 have hon0 : Hid (OnP D.S D.P u2 u2) := hidI (OnP.refl _ _ _)
 have hGP : ∀ i, i < D.S → G ≠ D.P i := fun i hi => by rw [hG.out]; exact Ne.symm (ho.out.p i hi).2.2.2.1
 have hMP : ∀ i, i < D.S → M ≠ D.P i := fun i hi => by rw [hM.out]; exact Ne.symm (ho.out.p i hi).2.2.1
 have hVP : ∀ i, i < D.S → D.gv ≠ D.P i := fun i hi => Ne.symm (ho.out.p i hi).2.2.2.2
 replace hGP := hidI hGP
 replace hMP := hidI hMP
 replace hVP := hidI hVP
 replace hh2 := hidI hh2
 replace hsu2 := hidI hsu2
 replace hd1w := hidI hd1w
 go_wp2
 go_loopg [52] N (fun g i wr => ∃ j : Nat, j + g = N ∧ i = .int .i64 j ∧ Hid (VSt wr D.S D.P (numJ num nm par d j) (lnk par x y)) ∧ Hid (OnP D.S D.P u2 wr))
 case atStart => exact ⟨0, by omega, rfl, hst0, hon0⟩
 case round =>
  clear hst0 hon0
  obtain ⟨j, hj, rfl, hst, hon⟩ := hrel
  have hrowr : wr.heap[G]? = some (.cells cur' 212 (0, 0)) := (hon.out.block G hGP.out).trans ((congrArg (·[G]?) hh2.out).trans hrow6.out)
  by_cases hlt : j < N
  · have hji : (j : Int) < (N : Int) := by omega
    obtain ⟨z, hz⟩ := exq (ls.getD (d + j + 1) 0)
    obtain ⟨Z, hZ⟩ := exq (D.P z)
    obtain ⟨l1, l2, l3⟩ := hls.out.left (d + j + 1) (by omega)
    rw [← hz] at l1 l2 l3
    have cG : wr.cell? ⟨G, d + j, none⟩ = some (.pointer (some ⟨Z, 0, none⟩)) := by
     rw [cell_of_heap hrowr (d + j), hat6.out (d + j) (by omega), if_neg (by omega), ← hz, ← hZ]; rfl
    have hZh := hst.out z l1
    rw [← hZ] at hZh
    obtain ⟨zn, hzn⟩ := exq (numJ num nm par d j z)
    rw [← hzn] at hZh
    have hznv : zn = (d : Int) + j + 1 := by
     rw [hzn]
     unfold numJ
     rw [if_neg (fun h => by rw [l3] at h; push_cast at h; omega), (hls.out.root z l1 l2).1, l3]
     push_cast; omega
    have cz : wr.cell? ⟨Z, 0, none⟩ = some (.int .i64 zn) := by simpa using cell_of_heap hZh 0
    have fz := frozen_of_row wr Z 0 _ _ hZh
    have hwz : IntKind.i64.wrap (zn - 1) = zn - 1 := IntWalk.i64_in _ (by omega)
    have hst9 : Hid (VSt (wr.setCell ⟨Z, 0, none⟩ (.int .i64 (zn - 1))) D.S D.P (numJ num nm par d (j + 1)) (lnk par x y)) := hidI (by
     rw [hZ]
     refine (hst.out.number ho.out.inj l1 (zn - 1)).congr fun i hi => ?_
     show (if i = z then zn - 1 else numJ num nm par d j i) = _
     by_cases hiz : i = z
     · subst hiz
       rw [if_pos rfl]
       unfold numJ
       rw [if_pos ⟨l2, by rw [l3]; push_cast; omega, by rw [l3]; push_cast; omega⟩, (hls.out.root i l1 l2).1, l3, hznv]
       push_cast; omega
     · rw [if_neg hiz]
       unfold numJ
       by_cases hc : par i = none ∧ (d : Int) < nm i ∧ nm i ≤ (d : Int) + j
       · rw [if_pos hc, if_pos ⟨hc.1, hc.2.1, by push_cast; omega⟩]
       · rw [if_neg hc, if_neg (fun h => by
          have h3 : nm i = ((d + j + 1 : Nat) : Int) := by
           have := h.2.2
           have h4 : ¬ nm i ≤ (d : Int) + j := fun h5 => hc ⟨h.1, h.2.1, h5⟩
           push_cast at this ⊢; omega
          have := (hls.out.root i hi h.1).2.2
          rw [h3, Int.toNat_natCast, ← hz] at this
          exact hiz this.symm)])
    have hon9 : Hid (OnP D.S D.P u2 (wr.setCell ⟨Z, 0, none⟩ (.int .i64 (zn - 1)))) := hidI (hon.out.trans (by rw [hZ]; exact OnP.set l1 0 _))
    replace hj := hidI hj
    replace hz := hidI hz
    replace hZ := hidI hZ
    replace l1 := hidI l1
    replace l2 := hidI l2
    replace l3 := hidI l3
    replace hZh := hidI hZh
    replace hzn := hidI hzn
    replace hznv := hidI hznv
    replace hrowr := hidI hrowr
    go_wp2
    go_roundg (N - (j + 1))
    case rel => exact ⟨j + 1, by have := hj.out; omega, by go_num, hst9, hon9⟩
    case measure => have := hj.out; omega
  · obtain rfl : j = N := by omega
    have hji : ¬ (j : Int) < (j : Int) := by omega
    have hboxr := (hon.out.block M hMP.out).trans ((congrArg (·[M]?) hh2.out).trans hbox6.out)
    have c3r : wr.cell? ⟨M, 3, none⟩ = some (.int .i32 1) := by simpa using cell_of_heap hboxr 3
    have f3r := frozen_of_row wr M 3 _ _ hboxr
    have hoth9 : ∀ b, b ≠ M → (wr.setCell ⟨M, 3, none⟩ (.int .i32 0)).heap[b]? = wr.heap[b]? := fun b hb => Below.heap_setCell _ _ _ _ hb
    have hfin : MergeRet D r s ev nm (K1 + 1) k d w (.returned (.tuple #[])) (wr.setCell ⟨M, 3, none⟩ (.int .i32 0)) := by
     refine ⟨rfl, ⟨?_, fun i hi => ?_, cur', lsD ls d K1, numJ num nm par d (K1 - d), lnk par (ls.getD d 0) (ls.getD k 0), _, merge_ls hls.out hkd hd ?_ hat6.out ?_⟩, ?_⟩
     · have := heap_setCell_same wr M 3 _ _ (.int .i32 0) hboxr
       rw [← hM.out, this]
       simp [MgBox, ← hG.out, ← hcl.out]
     · have h1 := ho.out.gv.2.2
       rw [← hM.out] at h1
       rw [World.cell?_of_block (w := wr) (a := ⟨D.gv, i, none⟩) (hoth9 D.gv h1), World.cell?_of_block (w := u2) (a := ⟨D.gv, i, none⟩) (hon.out.block D.gv hVP.out), World.cell?_of_block (w := w6) (a := ⟨D.gv, i, none⟩) (by rw [hh2.out])]
       exact hvs6.out i hi
     · rw [← hG.out, hoth9 G hGM]; exact hrowr
     · rw [show K1 + 1 - 1 - d = j by omega, ← hx.out, ← hy.out]
       exact hst.out.keep (fun i hi => hoth9 _ (Ne.symm (hMP.out i hi)))
     · refine hoff6.out.trans (MgOff.drew.trans ?_)
       rw [← hu2.out]
       exact (MgOff.of_onP hon.out).trans (MgOff.setMb' hM.out _ _)
    replace hfin := hidI hfin
    replace hboxr := hidI hboxr
    replace hrowr := hidI hrowr
    replace hj := hidI hj
    clear hst
    go_wp2
    refine leaves_cons (f := 208) (args := #[.pointer (some ⟨M, 3, none⟩)]) (by simp) (by simp [go_sem]) ?_
    refine (unlock_deferred Tryz.muLib ⟨M, 3, none⟩ .returning _ c3r f3r).mono ?_
    rintro e u' w'' ⟨rfl, rfl, rfl⟩
    exact ⟨_, results_none rfl _ _ _, hfin.out⟩
end Go.Proofs.YtpjlamnjiilgbaaGreat
