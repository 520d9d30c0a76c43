import Derived.Test.YtfpklgmahbhecaaGreatDH
import Derived.Test.YtfpklgmahbhecaaGreatRE
import Derived.Deep.Cut
import Derived.Deep.LoopGhost
import Derived.Test.YtfpklgmahbhecaaGreatMS
import Derived.Test.YtfpklgmahbhecaaGreatRH
namespace Go.Proofs.YtfpklgmahbhecaaGreat
open Go.RowKit
set_option linter.unusedVariables false
set_option linter.unusedSimpArgs false
def WsIn (P : List (List Int) → Prop) (B g : Nat) (a : Option Addr) (len cap : Nat) (w : World) (e : Ending) (w' : World) : Prop :=
 ∃ v zss, P zss ∧ e = .returned v ∧ ReadSS w'.heap.size w' v zss ∧ w.grownBy w' (some g) ∧ Dr B g a len cap w'
def WSt (w : World) (base : Nat) (v : Value) (us : List Value) (zss : List (List Int)) : Prop :=
 OwnsW w base v us ∧ us.length = zss.length ∧ ∀ i, i < us.length → ∃ lo hi, RowI w lo hi (us.getD i undef) (zss.getD i []) ∧ base ≤ lo ∧ hi ≤ w.heap.size ∧ ∀ k, v.ownBlock = some k → k < lo ∨ hi ≤ k
theorem WSt.kept {w w' : World} {base g : Nat} {v : Value} {us : List Value} {zss : List (List Int)} (h : WSt w base v us zss) (hg : w.grownBy w' (some g)) (hlt : g < base) : WSt w' base v us zss := by
 obtain ⟨h1, h2, h3⟩ := h
 have hl := World.ownsRow.lt h1
 refine ⟨OwnsW.other h1 (fun k hk => hg.block k (hl k hk).2 (fun e => by cases e; have := (hl g hk).1; omega)), h2, fun i hi => ?_⟩
 obtain ⟨lo, hi2, q1, q2, q3, q4⟩ := h3 i hi
 exact ⟨lo, hi2, q1.keep (fun k a1 a2 => hg.block k (by omega) (fun e => by cases e; omega)), q2, Nat.le_trans q3 hg.size, q4⟩
theorem WSt.push {w0 w w' : World} {base : Nat} {v v' u : Value} {us : List Value} {zss : List (List Int)} {zs : List Int} {X : Obj} (h : WSt w base v us zss) (hv : ∀ k, v.ownBlock = some k → k < w0.heap.size) (hw0 : base ≤ w0.heap.size) (hu : RowI w w0.heap.size w.heap.size u zs)
 (ho : OwnsW w' base v' (us ++ [u])) (hg : (w.alloc X).grownBy w' v.ownBlock) (hloc : v'.ownBlock = v.ownBlock ∨ v'.ownBlock = some (w.heap.size + 1)) : WSt w' base v' (us ++ [u]) (zss ++ [zs]) := by
 obtain ⟨h1, h2, h3⟩ := h
 have hsz := hg.size
 simp at hsz
 have hblk : ∀ k, k < w.heap.size → v.ownBlock ≠ some k → w'.heap[k]? = w.heap[k]? := fun k hk hne => by
  rw [hg.block k (by simp; omega) (fun e => hne e.symm)]; exact heap_alloc_old _ _ hk
 have hlast : ∀ lo hi, (∀ k, v.ownBlock = some k → k < lo ∨ hi ≤ k) → hi ≤ w.heap.size → ∀ k, v'.ownBlock = some k → k < lo ∨ hi ≤ k := fun lo hi h5 h6 k hk => by
  rcases hloc with e | e
  · exact h5 k (e ▸ hk)
  · rw [e] at hk; right; have : w.heap.size + 1 = k := by simpa using hk
    omega
 refine ⟨ho, by simp [h2], fun i hi => ?_⟩
 by_cases hil : i < us.length
 · obtain ⟨lo, hi2, q1, q2, q3, q4⟩ := h3 i hil
   refine ⟨lo, hi2, ?_, q2, by omega, hlast lo hi2 q4 q3⟩
   have e1 : (us ++ [u]).getD i undef = us.getD i undef := by rw [List.getD_eq_getElem?_getD, List.getElem?_append_left hil, List.getD_eq_getElem?_getD]
   have e2 : (zss ++ [zs]).getD i [] = zss.getD i [] := by rw [List.getD_eq_getElem?_getD, List.getElem?_append_left (by omega), List.getD_eq_getElem?_getD]
   rw [e1, e2]
   exact q1.keep (fun k a1 a2 => hblk k (by omega) (fun e => by rcases q4 k e with c | c <;> omega))
 · have hie : i = us.length := by rw [List.length_append, List.length_singleton] at hi; omega
   subst hie
   have hv2 : ∀ k, v.ownBlock = some k → k < w0.heap.size ∨ w.heap.size ≤ k := fun k hk => .inl (hv k hk)
   refine ⟨w0.heap.size, w.heap.size, ?_, hw0, by omega, hlast _ _ hv2 (Nat.le_refl _)⟩
   have e1 : (us ++ [u]).getD us.length undef = u := by simp
   have e2 : (zss ++ [zs]).getD us.length [] = zs := by rw [h2]; simp
   rw [e1, e2]
   exact hu.keep (fun k a1 a2 => hblk k a2 (fun e => by have := hv k e; omega))
theorem WSt.read {w : World} {base : Nat} {v : Value} {us : List Value} {zss : List (List Int)} (h : WSt w base v us zss) (hl : zss.length ≤ 1000) : ReadSS w.heap.size w v zss := by
 obtain ⟨h1, h2, h3⟩ := h
 have hlt := World.ownsRow.lt h1
 obtain ⟨_, ⟨rfl, h5⟩ | ⟨g, cap, cur, rfl, hg, hh, hc1, hc2, hc3, hc4⟩⟩ := h1
 · have : zss = [] := List.length_eq_zero_iff.1 (by omega)
   subst this
   exact ⟨by simp, none, 0, rfl, ⟨fun _ => rfl, Nat.le_refl _⟩, .inl rfl⟩
 · refine ⟨by omega, _, cap, by rw [h2], ⟨(fun e => by cases e), by omega⟩, .inr ⟨g, 0, rfl, (hlt g rfl).2, fun i hi => ?_⟩⟩
   obtain ⟨lo, hi2, q1, q2, q3, q4⟩ := h3 i (by omega)
   refine ⟨us.getD i undef, ?_, q1.read.mono q3⟩
   have hi' : i < us.length := by omega
   have e1 : (cur.toList.take (us.length * 1))[i]? = us[i]? := by rw [hc4]
   rw [List.getElem?_take, if_pos (by omega), List.getElem?_eq_getElem hi'] at e1
   rw [World.cell?, hh]
   simp only
   rw [Nat.zero_add, ← Array.getElem?_toList, e1, List.getD_eq_getElem?_getD, List.getElem?_eq_getElem hi']; rfl
def Ws3 (zss : List (List Int)) : Prop := zss.length ≤ 3 ∧ ∀ z ∈ zss, z.length ≤ 5
set_option maxHeartbeats 3200000 in
set_option maxRecDepth 100000 in
theorem words6_in {B g : Nat} {a : Option Addr} {len cap : Nat} {w : World} (h : Dr B g a len cap w) (r : Nat) (hr1 : 1 ≤ r) (hr3 : r ≤ 3) :
 Calls Tryz.prog 39 #[.pointer (some ⟨g, 0, none⟩), .int .i64 r] w (WsIn Ws3 B g a len cap w) := by
 have hlt := h.lt
 obtain ⟨w1, hw1⟩ := exq (w.alloc (.cells #[] 27))
 have hd1 : Dr B g a len cap w1 := by rw [hw1]; exact h.alloc _
 have hs1 : w1.heap.size = w.heap.size + 1 := by rw [hw1]; simp
 have hg1 : w.grownBy w1 (some g) := by rw [hw1]; exact World.grownBy_alloc w _ (some g)
 have hst1 : WSt w1 w.heap.size (.slice (some ⟨w.heap.size, 0, none⟩) 0 0) [] [] := by rw [hw1]; exact ⟨OwnsW.lit w, rfl, fun i hi => by simp at hi⟩
 have hbl := below_in hd1 4 4 rfl (by omega) (by omega)
 have hww := hidI hw1.symm
 replace hw1 := hidI hw1
 replace hd1 := hidI hd1
 replace hst1 := hidI hst1
 replace hg1 := hidI hg1
 go_enter Tryz.func39, Tryz.ntmps39
 go_upto_region 2 with fail
 rw [hww.out]
 go_wp2_with fail
 refine hbl.mono ?_
 rintro e w2 ⟨n0, ⟨n1, n2⟩, rfl, hg2, hd2⟩
 obtain ⟨n, rfl⟩ := Int.eq_ofNat_of_zero_le n1
 clear hbl
 have hsz2 := hg2.size
 have hst2 := hidI (hst1.out.kept hg2 hlt)
 have hg02 := hidI (grown_trans hg1.out hg2)
 replace hd2 := hidI hd2
 replace hg2 := hidI hg2
 go_wp2_with fail
 go_loopg [5, 6] n (fun gg u k wr => k = .int .i64 (gg : Nat) ∧ gg ≤ n ∧ Hid (∃ us zss, WSt wr w.heap.size u us zss ∧ zss.length + gg = n ∧ ∀ z ∈ zss, z.length ≤ 5) ∧ Hid (w.grownBy wr (some g)) ∧ Hid (Dr B g a len cap wr))
 case atStart => exact ⟨rfl, Nat.le_refl _, hidI ⟨[], [], hst2.out, by simp, fun z hz => by cases hz⟩, hg02, hd2⟩
 case round =>
  clear hst2
  obtain ⟨rfl, hgn, hst, hgr, hdr⟩ := hrel
  obtain ⟨us, zss, hst3, hzl, hz5⟩ := hst.out
  have hszr := hgr.out.size
  obtain ⟨ua, ucp, rfl⟩ := OwnsW.form hst3.1
  have hvlt : ∀ k, Value.ownBlock (.slice ua us.length ucp) = some k → k < wr.heap.size := fun k hk => (World.ownsRow.lt hst3.1 k hk).2
  obtain ⟨nu, hnu⟩ := exq us.length
  have hnz : nu ≤ 3 := by have := hst3.2.1; omega
  rw [← hnu] at hvlt hst3 ⊢
  replace hz5 := hidI hz5
  replace hvlt := hidI hvlt
  by_cases hg0 : 0 < gk
  · have hgi : (0 : Int) < (gk : Int) := by omega
    have hof := of_in hdr.out r hr1 hr3 5 5 rfl (by omega)
    replace hst3 := hidI hst3
    replace hst := hidI hst
    replace hnu := hidI hnu
    replace hzl := hidI hzl
    go_wp2_with fail
    refine hof.mono ?_
    rintro e w3 ⟨uv, zs, hW, rfl, how3, hg3, hd3⟩
    clear hof
    have hsz3 := hg3.size
    have hzs5 := hW.2.2
    have hrow3 := how3.row (by omega)
    obtain ⟨va, vm, vc, rfl⟩ : ∃ a m c, uv = Value.slice a m c := by
     obtain ⟨_, ⟨h1, _⟩ | ⟨g, cap, cur, h1, _⟩⟩ := how3 <;> exact ⟨_, _, _, h1⟩
    have hst5 := hst3.out.kept hg3 hlt
    have hw3 := grown_trans hgr.out hg3
    have hw3s := hw3.size
    replace hW := hidI hW
    replace how3 := hidI how3
    replace hrow3 := hidI hrow3
    replace hst5 := hidI hst5
    replace hw3 := hidI hw3
    replace hd3 := hidI hd3
    replace hg3 := hidI hg3
    go_wp2_with (at_builtin; go_must (refine wpList_pushW_at rfl _ _ rfl w.heap.size (.slice ua nu ucp) us va vm vc rfl rfl (by exact hst5.out.1) (by have := hnu.out; omega) (by omega) ?_))
    intro v' w4 ho4 hg4 hl4
    have hst6 := hst5.out.push hvlt.out hszr hrow3.out ho4 hg4 hl4
    have hb4 : Below w.heap.size w3 w4 := ((Below.refl w.heap.size w3).alloc (by omega) _).grown hg4 (by simp; omega) (fun k hk => (World.ownsRow.lt hst5.out.1 k hk).1)
    have hw4 := hidI (grown_below hw3.out hb4)
    have hd4 := hidI (hd3.out.over hb4 hlt)
    have hrel' := hidI (show ∃ us zss, WSt w4 w.heap.size v' us zss ∧ zss.length + (gk - 1) = n ∧ ∀ z ∈ zss, z.length ≤ 5 from ⟨_, _, hst6, by have := hzl.out; simp; omega, fun z hz => by
     rcases List.mem_append.1 hz with h1 | h1
     · exact hz5.out z h1
     · rw [List.mem_singleton] at h1; rw [h1]; exact hzs5⟩)
    clear ho4 hg4 hl4 hst6 hb4
    go_wp2
    go_roundg (gk - 1)
    case rel => exact ⟨by go_num, by omega, hrel', hw4, hd4⟩
    case measure => omega
  · obtain rfl : gk = 0 := by omega
    have hfin : WsIn Ws3 B g a len cap w (.returned (.slice ua nu ucp)) wr := ⟨_, zss, ⟨by omega, hz5.out⟩, rfl, hst3.read (by omega), hgr.out, hdr.out⟩
    replace hfin := hidI hfin
    replace hst3 := hidI hst3
    replace hst := hidI hst
    go_wp2
    go_ret
    exact hfin.out
theorem flower_small {r : Int} {zss : List (List Int)} (hr : 1 ≤ r ∧ r ≤ 3) (hz : Ws3 zss) : Gr0 (floR r zss) (floZ r zss) (floE r zss) ∧ totL zss ≤ 15 := by
 have ht : totL zss ≤ 15 := by
  obtain ⟨h1, h2⟩ := hz
  match zss, h1, h2 with
  | [], _, _ => simp [totL, sumN]
  | [x], _, h2 => have := h2 x (by simp); simp [totL, sumN] <;> omega
  | [x, y], _, h2 => have := h2 x (by simp); have := h2 y (by simp); simp [totL, sumN] <;> omega
  | [x, y, z], _, h2 => have := h2 x (by simp); have := h2 y (by simp); have := h2 z (by simp); simp [totL, sumN] <;> omega
 have hl := floL_lim r zss zss.length (Nat.le_refl _)
 rw [List.take_length] at hl
 have hs : sumN ((zss.map List.length).take zss.length) = totL zss := by rw [List.take_of_length_le (by simp)]
 refine ⟨⟨?_, ?_, ?_⟩, ht⟩
 · unfold floR; split <;> omega
 · unfold floZ; split <;> omega
 · unfold floE; split
   · have := hl.2; rw [hs] at this; omega
   · simp
set_option maxHeartbeats 6400000 in
set_option maxRecDepth 100000 in
theorem g7_in {B g : Nat} {a : Option Addr} {len cap : Nat} {w : World} (h : Dr B g a len cap w) :
 Calls Tryz.prog 16 #[.pointer (some ⟨g, 0, none⟩)] w (GrIn Gr0 B g a len cap w) := by
 have hlt := h.lt
 obtain ⟨w1, hw1⟩ := exq (w.alloc (.cells #[.int .i64 0, .int .i64 0, .slice none 0 0] 26))
 have hd1 := h.alloc (.cells #[.int .i64 0, .int .i64 0, .slice none 0 0] 26)
 have hk1 := heap_alloc_new w (.cells #[.int .i64 0, .int .i64 0, .slice none 0 0] 26)
 rw [← hw1] at hd1 hk1
 have hs1 : w1.heap.size = w.heap.size + 1 := by rw [hw1]; simp
 have hg1 : w.grownBy w1 (some g) := by rw [hw1]; exact World.grownBy_alloc w _ (some g)
 have hww := hidI hw1.symm
 have fin : ∀ (W : World) (lo hi : Nat) (r' s' : Int) (av : Option Addr) (m c : Nat) (es' : List Ed), m = es'.length → Gr0 r' s' es' → RowS 53 3 W lo hi (.slice av m c) m (flatE es') → w1.heap.size ≤ lo → hi ≤ W.heap.size → w.grownBy W (some g) → Dr B g a len cap W →
  GrIn Gr0 B g a len cap w (.returned (.agg #[.int .i64 r', .int .i64 s', .slice av m c])) (((W.setCell ⟨w.heap.size, 0, none⟩ (.int .i64 r')).setCell ⟨w.heap.size, 1, none⟩ (.int .i64 s')).setCell ⟨w.heap.size, 2, none⟩ (.slice av m c)) := by
  intro W lo hi r' s' av m c es' hm hP hrw hlo hhi hgW hdW
  subst hm
  refine ⟨r', s', av, c, es', hP, rfl, (hrw.set3_ (.inl (by omega))).wide (by omega) (by rw [size_set3]; exact hhi), grown_set3 hgW (Nat.le_refl _), hdW.over (below_set3 (Below.refl w.heap.size W) (Nat.le_refl _)) hlt⟩
 replace fin := hidI fin
 replace hw1 := hidI hw1
 replace hk1 := hidI hk1
 replace hg1 := hidI hg1
 have hon := below_in hd1 5 5 rfl (by omega) (by omega)
 replace hd1 := hidI hd1
 go_enter Tryz.func16, Tryz.ntmps16
 go_upto_region 1 with fail
 rw [hww.out]
 go_wp2_with fail
 refine hon.mono ?_
 rintro e w2 ⟨k, ⟨ka, kb⟩, rfl, hg2, hd2⟩
 clear hon
 have hsz2 := hg2.size
 have hR2 := hidI ((kept_block hg2 (by omega) (by omega)).trans hk1.out)
 have hg02 := hidI (grown_trans hg1.out hg2)
 by_cases k0 : k = 0
 · subst k0
   have ha := any4_in hd2
   replace hd2 := hidI hd2
   replace hg2 := hidI hg2
   go_wp2_with fail
   refine ha.mono ?_
   rintro e w3 ⟨r, s, x, c, es, hP, rfl, hrow3, hg3, hd3⟩
   clear ha
   have hsz3 := hg3.size
   have hRz := (kept_block hg3 (by omega) (by omega)).trans hR2.out
   obtain ⟨n, hm⟩ := exq es.length
   rw [← hm] at hrow3 ⊢
   obtain ⟨y0, y1, y2⟩ := cell3 hRz
   have f2 := fun j => frozen_of_row w3 w.heap.size j _ _ hRz
   simp at y0 y1 y2
   have hfz := fin.out w3 w2.heap.size w3.heap.size r s x n c es hm hP hrow3 (by omega) (Nat.le_refl _) (grown_trans hg02.out hg3) hd3
   have hset := set3 hRz (.int .i64 r) (.int .i64 s) (.slice x n c)
   replace hfz := hidI hfz
   replace hset := hidI hset
   replace hRz := hidI hRz
   replace hm := hidI hm
   replace hP := hidI hP
   replace hrow3 := hidI hrow3
   replace hg3 := hidI hg3
   replace hd3 := hidI hd3
   go_wp2
   (try simp only [Exit.inBlock, Exit.then])
   refine ret_cell (cs := #[.int .i64 r, .int .i64 s, .slice x n c]) rfl (g := w.heap.size) rfl (by exact hset.out) Tryz.underlying26 sizeGraph ?_
   exact hfz.out
 by_cases k1 : k = 1
 · subst k1
   have ha := graph_in hd2
   replace hd2 := hidI hd2
   replace hg2 := hidI hg2
   go_wp2_with fail
   refine ha.mono ?_
   rintro e w3 ⟨r, s, x, c, es, ⟨hr1, hr3, hs1a, hs5a, hisg, hl8⟩, rfl, hrow3, hg3, hd3⟩
   clear ha
   have hsz3 := hg3.size
   have hRz := (kept_block hg3 (by omega) (by omega)).trans hR2.out
   obtain ⟨n, hm⟩ := exq es.length
   rw [← hm] at hrow3 ⊢
   have hP : Gr0 r s es := ⟨by omega, by omega, by omega⟩
   obtain ⟨y0, y1, y2⟩ := cell3 hRz
   have f2 := fun j => frozen_of_row w3 w.heap.size j _ _ hRz
   simp at y0 y1 y2
   have hfz := fin.out w3 w2.heap.size w3.heap.size r s x n c es hm hP hrow3 (by omega) (Nat.le_refl _) (grown_trans hg02.out hg3) hd3
   have hset := set3 hRz (.int .i64 r) (.int .i64 s) (.slice x n c)
   replace hfz := hidI hfz
   replace hset := hidI hset
   replace hRz := hidI hRz
   replace hm := hidI hm
   replace hP := hidI hP
   replace hrow3 := hidI hrow3
   replace hg3 := hidI hg3
   replace hd3 := hidI hd3
   replace hisg := hidI hisg
   go_wp2
   (try simp only [Exit.inBlock, Exit.then])
   refine ret_cell (cs := #[.int .i64 r, .int .i64 s, .slice x n c]) rfl (g := w.heap.size) rfl (by exact hset.out) Tryz.underlying26 sizeGraph ?_
   exact hfz.out
 have hne0 : (k == 0) = false := by rw [beq_eq_false_iff_ne]; exact k0
 have hne1 : (k == 1) = false := by rw [beq_eq_false_iff_ne]; exact k1
 have hpk := pick_in (fun z => 1 ≤ z ∧ z ≤ 3) (hd2.alloc (.cells #[.int .i64 1, .int .i64 2, .int .i64 2, .int .i64 2, .int .i64 3] 3)) w2.heap.size 5 (by omega) (by omega) (by have := hd2.lt; omega) (pints_lit _ w2 [1, 2, 2, 2, 3] _ rfl (by decide))
 have hg2p := hidI (grown_trans hg02.out (World.grownBy_alloc w2 (.cells #[.int .i64 1, .int .i64 2, .int .i64 2, .int .i64 2, .int .i64 3] 3) (some g)))
 have hR2p := hidI ((heap_alloc_old w2 (.cells #[.int .i64 1, .int .i64 2, .int .i64 2, .int .i64 2, .int .i64 3] 3) (by omega)).trans hR2.out)
 have hs2p : w2.heap.size < (w2.alloc (.cells #[.int .i64 1, .int .i64 2, .int .i64 2, .int .i64 2, .int .i64 3] 3)).heap.size := by simp
 replace hs2p := hidI hs2p
 replace hd2 := hidI hd2
 replace hg2 := hidI hg2
 go_wp2_with fail
 refine hpk.mono ?_
 rintro e w3 ⟨r0, ⟨r1, r3⟩, rfl, hg3, hd3⟩
 clear hpk
 obtain ⟨r, rfl⟩ : ∃ r : Nat, r0 = (r : Int) := ⟨r0.toNat, by omega⟩
 have hR3 := hidI ((kept_block hg3 (by have := hs2p.out; omega) (by omega)).trans hR2p.out)
 have hg03 := grown_trans hg2p.out hg3
 have hsz3 := hg03.size
 have hsz3b : w1.heap.size ≤ w3.heap.size := by have := hg3.size; have := hs2p.out; omega
 have hwd := words6_in hd3 r (by omega) (by omega)
 replace hg03 := hidI hg03
 replace hg3 := hidI hg3
 replace hd3 := hidI hd3
 go_wp2_with fail
 refine hwd.mono ?_
 rintro e w4 ⟨lv, zss, hzs, rfl, hrd4, hg4, hd4⟩
 clear hwd
 have hsz4 := hg4.size
 obtain ⟨hP, htot⟩ := flower_small (r := (r : Int)) (by omega) hzs
 have hfl := specFlower w4 (r : Int) lv zss hrd4 (by omega)
 have hR4 := hidI ((kept_block hg4 (by omega) (by omega)).trans hR3.out)
 have hg04 := hidI (grown_trans hg03.out hg4)
 obtain ⟨FR, hFR⟩ := exq (floR (r : Int) zss)
 obtain ⟨FS, hFS⟩ := exq (floZ (r : Int) zss)
 obtain ⟨FE, hFE⟩ := exq (floE (r : Int) zss)
 obtain ⟨FB, hFB⟩ := exq (arew (r : Int) zss)
 rw [← hFR, ← hFS, ← hFE, ← hFB] at hfl
 rw [← hFR, ← hFS, ← hFE] at hP
 obtain ⟨_, lva, lvc, rfl, _, _⟩ : ReadSS _ _ lv zss := hrd4
 obtain ⟨nz, hnz⟩ := exq zss.length
 rw [← hnz] at hfl ⊢
 replace hnz := hidI hnz
 replace hFR := hidI hFR
 replace hFS := hidI hFS
 replace hFE := hidI hFE
 replace hFB := hidI hFB
 replace hzs := hidI hzs
 replace hP := hidI hP
 replace hg4 := hidI hg4
 replace hd4 := hidI hd4
 go_wp2_with fail
 refine hfl.mono ?_
 rintro e w5 ⟨fa, fc, rfl, hrow5, hb5⟩
 clear hfl
 have hsz5 := hb5.size
 obtain ⟨q, hq⟩ := exq FE.length
 rw [← hq] at hrow5 ⊢
 obtain ⟨X, hX⟩ := exq w5.heap.size
 obtain ⟨w6, hw6⟩ := exq (w5.alloc (.cells #[.int .i64 0, .int .i64 0, .slice none 0 0] 26))
 have hX0 : w6.heap[X]? = some (.cells #[.int .i64 0, .int .i64 0, .slice none 0 0] 26 (0, 0)) := by rw [hw6, hX]; exact heap_alloc_new _ _
 have hbw6 : Below w5.heap.size w5 w6 := by rw [hw6]; exact (Below.refl _ _).alloc (Nat.le_refl _) _
 obtain ⟨w7, hw7⟩ := exq (((w6.setCell ⟨X, 0, none⟩ (.int .i64 FR)).setCell ⟨X, 1, none⟩ (.int .i64 FS)).setCell ⟨X, 2, none⟩ (.slice fa q fc))
 have hXC : w7.heap[X]? = some (.cells #[.int .i64 FR, .int .i64 FS, .slice fa q fc] 26 (0, 0)) := by rw [hw7]; exact set3 hX0 _ _ _
 have hbw7 : Below w5.heap.size w5 w7 := by rw [hw7, hX]; exact below_set3 hbw6 (Nat.le_refl _)
 have hszC := hbw7.size
 have hsw7 : X < w7.heap.size := (Array.getElem?_eq_some_iff.1 hXC).1
 obtain ⟨t0, t1, t2⟩ := cell3 hX0
 have ft := fun j => frozen_of_row w6 X j _ _ hX0
 obtain ⟨x0, x1, x2⟩ := cell3 hXC
 simp at t0 t1 t2 x0 x1 x2
 have hBw := hidI hw6.symm
 have hCw := hidI hw7.symm
 have hXw := hidI hX.symm
 replace hw6 := hidI hw6
 replace hw7 := hidI hw7
 replace hX0 := hidI hX0
 replace hX := hidI hX
 have hb47 := hb5.trans (hbw7.mono hsz5)
 have hRz := (hb47.block _ (by omega)).trans hR4.out
 have hrz : RowS 53 3 w7 w4.heap.size w5.heap.size (.slice fa q fc) q (flatE FE) := hrow5.below hbw7 (Nat.le_refl _)
 have hgz := grown_below hg04.out (hb47.mono (by omega))
 have hdz := hd4.out.over hb47 (by have := hd4.out.lt; omega)
 obtain ⟨y0, y1, y2⟩ := cell3 hRz
 have f2 := fun j => frozen_of_row w7 w.heap.size j _ _ hRz
 simp at y0 y1 y2
 have hfz := fin.out w7 w4.heap.size w5.heap.size FR FS fa q fc FE hq hP.out hrz (by omega) (by omega) hgz hdz
 have hset := set3 hRz (.int .i64 FR) (.int .i64 FS) (.slice fa q fc)
 replace hfz := hidI hfz
 replace hset := hidI hset
 replace hRz := hidI hRz
 replace hq := hidI hq
 replace hrow5 := hidI hrow5
 replace hb5 := hidI hb5
 replace hb47 := hidI hb47
 replace hrz := hidI hrz
 replace hgz := hidI hgz
 replace hdz := hidI hdz
 replace hXC := hidI hXC
 replace hbw7 := hidI hbw7
 go_upto_region 8 with (first | rw [hBw.out] | rw [hXw.out] | fail)
 try rw [hXw.out]
 rw [hCw.out]
 clear t0 t1 t2 ft
 go_wp2
 (try simp only [Exit.inBlock, Exit.then])
 refine ret_cell (cs := #[.int .i64 FR, .int .i64 FS, .slice fa q fc]) rfl (g := w.heap.size) rfl (by exact hset.out) Tryz.underlying26 sizeGraph ?_
 exact hfz.out
end Go.Proofs.YtfpklgmahbhecaaGreat
