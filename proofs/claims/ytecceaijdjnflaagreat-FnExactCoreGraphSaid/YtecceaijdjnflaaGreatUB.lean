/- Cores, the program: leastLeaf, withoutPlace. -/
import Derived.Test.YtecceaijdjnflaaGreatQH
import Derived.Test.YtecceaijdjnflaaGreatGPD
import Derived.Laws.CopyOwn
import Derived.Deep.RegionLaw
import Derived.Deep.LoopGhost
namespace Go.Proofs.YtecceaijdjnflaaGreat
open Go.RowKit
set_option linter.unusedVariables false
set_option linter.unusedSimpArgs false

set_option maxRecDepth 100000 in
set_option maxHeartbeats 3200000 in
theorem leastLeaf_any (w : World) (r s : Int) (v : Value) (es : List Ed) (h : ReadE w.heap.size w v es) (hin : InE es) (hs : -9223372036854775808 ≤ s ∧ s ≤ 9223372036854775807) (hl : es.length ≤ 10000000) :
    Calls Tryz.prog 34 #[.agg #[.int .i64 r, .int .i64 s, v]] w (LwInt w (ld s es)) := by
  obtain ⟨a, cap, rfl, hnc⟩ := h.form
  obtain ⟨n, hn⟩ : ∃ n, n = es.length := ⟨_, rfl⟩
  rw [← hn] at hl hnc ⊢
  rw [← hn] at h
  obtain ⟨w1, hw1⟩ : ∃ w1, w1 = w.alloc (.cells #[.int .i64 r, .int .i64 s, .slice a n cap] 28) := ⟨_, rfl⟩
  have hb1 : Below w.heap.size w w1 := by rw [hw1]; exact (Below.refl _ _).alloc (Nat.le_refl _) _
  have hs1 : w.heap.size < w1.heap.size := by rw [hw1]; simp
  obtain ⟨g0, g1, g2⟩ := box3 hw1
  have hdeg := fun (W : World) (x : Int) (hr : ReadE W.heap.size W (.slice a n cap) es) => progDeg W r s (.slice a n cap) es x hr hin (by omega)
  obtain ⟨F, hF⟩ : ∃ F, F = ld s es := ⟨_, rfl⟩
  rw [← hF]
  have hF0 : Hid (F = ldN es 1 (s - 1).toNat) := hidI hF
  replace hdeg := hidI hdeg
  replace hF := hidI hF
  replace hn := hidI hn
  replace h := hidI h
  replace hin := hidI hin
  have hww := hidI hw1.symm
  have hb02 := hidI hb1
  replace hw1 := hidI hw1
  go_enter Tryz.func34, Tryz.ntmps34
  go_upto_region 1 with fail
  rw [hww.out]
  go_wp2
  go_loopg [3] (s - 1).toNat (fun g i wr => ∃ k : Int, g = (s - k).toNat ∧ i = .int .i64 k ∧ 1 ≤ k ∧ Hid (F = ldN es k (s - k).toNat) ∧ Hid (Below w1.heap.size w1 wr))
  case atStart => exact ⟨1, rfl, rfl, by omega, hF0, hidI (Below.refl _ _)⟩
  case round =>
    obtain ⟨k, hg, rfl, hk1, hlf, hb⟩ := hrel
    have q0 := below_cell g0 hb.out hs1
    have q1 := below_cell g1 hb.out hs1
    have q2 := below_cell g2 hb.out hs1
    by_cases hlt : k < s
    · have hlf2 : F = if degE k es < 2 then k else ldN es (k + 1) (s - (k + 1)).toNat := by
        rw [hlf.out, show (s - k).toNat = (s - (k + 1)).toNat + 1 by omega]; rfl
      have hbr := hb02.out.trans (hb.out.mono hb02.out.size)
      have hdg := hdeg.out wr k ((h.out.below hbr).mono hbr.size)
      obtain ⟨d, hd⟩ : ∃ d, d = degE k es := ⟨_, rfl⟩
      rw [← hd] at hdg hlf2
      replace hd := hidI hd
      replace hg := hidI hg
      by_cases hd2 : d < 2
      · have hfin : F = k := by rw [hlf2, if_pos hd2]
        replace hfin := hidI hfin
        clear hlf2 hlf
        go_wp2_with fail
        refine hdg.mono ?_
        rintro e w3 ⟨rfl, hb3⟩
        have hbq := hbr.trans (hb3.mono hbr.size)
        clear hdg
        go_wp2
        go_ret
        exact ⟨ret_i hfin.out.symm, hbq⟩
      · have hnx : Hid (F = ldN es (k + 1) (s - (k + 1)).toNat) := hidI (by rw [hlf2, if_neg hd2])
        clear hlf2 hlf
        go_wp2_with fail
        refine hdg.mono ?_
        rintro e w3 ⟨rfl, hb3⟩
        have hbz := hb.out.trans (hb3.mono hb.out.size)
        replace hbz := hidI hbz
        clear hdg
        go_wp2
        go_roundg ((s - (k + 1)).toNat)
        case rel => exact ⟨k + 1, rfl, by go_num, by omega, hnx, hbz⟩
        case measure => have := hg.out; omega
    · have hfin : F = -1 := by rw [hlf.out, show (s - k).toNat = 0 by omega]; rfl
      have hbr := hb02.out.trans (hb.out.mono hb02.out.size)
      replace hfin := hidI hfin
      replace hg := hidI hg
      go_wp2
      go_ret
      exact ⟨ret_i hfin.out.symm, hbr⟩
/-- What withoutPlace leaves. -/
def WoRet (w : World) (lo hi : Nat) (zs : List Int) (e : Ending) (w' : World) : Prop := ∃ v', e = .returned v' ∧ RowI w' lo hi v' zs ∧ Below lo w w'
theorem splice_at {L : List Value} {off : Nat} {cs : List Value} (h : off + cs.length ≤ L.length) (i : Nat) : (splice L off cs)[i]? = if i < off then L[i]? else if i < off + cs.length then cs[i - off]? else L[i]? := by
  unfold splice
  by_cases h1 : i < off
  · rw [if_pos h1, List.getElem?_append_left (by simp; omega), List.getElem?_take, if_pos h1]
  · rw [if_neg h1, List.getElem?_append_right (by simp; omega), show (L.take off).length = off by simp; omega]
    by_cases h2 : i < off + cs.length
    · rw [if_pos h2, List.getElem?_append_left (by omega)]
    · rw [if_neg h2, List.getElem?_append_right (by omega), List.getElem?_drop]
      congr 1; omega
theorem without_row {w' : World} {lo hi g off p : Nat} {cur : Array Value} {zs : List Int} (hp : p < zs.length) (hlo : lo ≤ g) (hhi : g < hi) (hl : zs.length ≤ 1000)
    (hc : ∀ i, i < zs.length → cur[off + i]? = some (.int .i64 (zs.getD i 0)))
    (hh : w'.heap[g]? = some (.cells (splice cur.toList (off + p) ((zs.drop (p + 1)).map iv)).toArray 3 (0, 0))) :
    RowI w' lo hi (.slice (some ⟨g, off, none⟩) (zs.length - 1) (zs.length - 1)) (resN p zs zs.length) := by
  have hlen := res_len (l := zs) (v := (p : Int)) (by omega)
  have hsz : off + zs.length ≤ cur.size := by
    have := hc (zs.length - 1) (by omega)
    have := (Array.getElem?_eq_some_iff.1 this).1
    omega
  refine ⟨by omega, .inr ⟨g, off, zs.length - 1, _, by rw [show (resN (p : Int) zs zs.length).length = zs.length - 1 by omega], hlo, hhi, by omega, hh, fun i hi => ?_⟩⟩
  have hdl : ((zs.drop (p + 1)).map iv).length = zs.length - (p + 1) := by simp
  rw [List.getElem?_toArray, splice_at (by rw [hdl]; simp; omega), hdl, res_td2 p zs hp]
  have htl : (zs.take p).length = p := by simp; omega
  by_cases h1 : off + i < off + p
  · rw [if_pos h1, Array.getElem?_toList, hc i (by omega), List.getD_eq_getElem?_getD, List.getD_eq_getElem?_getD, List.getElem?_append_left (by omega), List.getElem?_take, if_pos (by omega)]
  · rw [if_neg h1, if_pos (by omega), List.getElem?_map, List.getElem?_drop, List.getD_eq_getElem?_getD, List.getElem?_append_right (by omega), List.getElem?_drop, htl, show p + 1 + (off + i - (off + p)) = p + 1 + (i - p) by omega, List.getElem?_eq_getElem (show p + 1 + (i - p) < zs.length by omega)]
    rfl
set_option maxRecDepth 100000 in
set_option maxHeartbeats 3200000 in
theorem without_any (w : World) (lo hi : Nat) (v : Value) (zs : List Int) (p : Nat) (hp : p < zs.length) (h : RowI w lo hi v zs) (hl : zs.length ≤ 1000) :
    Calls Tryz.prog 35 #[v, .int .i64 p] w (WoRet w lo hi (resN p zs zs.length)) := by
  obtain ⟨i0, hi0, hz0, hz1, hz2⟩ := info_parts infoInt
  have hsz : (Tryz.prog.info? 3).map (·.size) = some 1 := by rw [hi0]; simp [hz1]
  obtain ⟨_, ⟨rfl, rfl⟩ | ⟨g, off, cap, cur, rfl, hlo, hhi, hcap, hh, hc⟩⟩ := h
  · simp at hp
  obtain ⟨n, hn⟩ : ∃ n, n = zs.length := ⟨_, rfl⟩
  have hend := fun (w' : World) (hh' : w'.heap[g]? = some (.cells (splice cur.toList (off + p) ((zs.drop (p + 1)).map iv)).toArray 3 (0, 0))) => without_row hp hlo hhi hl hc hh'
  rw [← hn] at hp hl hcap hend ⊢
  obtain ⟨cs, hcs⟩ : ∃ cs, cs = (zs.drop (p + 1)).map iv := ⟨_, rfl⟩
  rw [← hcs] at hend
  have hcl : cs.length = n - (p + 1) := by rw [hcs, hn]; simp
  have hmin : cs.length = Nat.min (n - (p + 1)) (n - p) := by rw [hcl, show Nat.min (n - (p + 1)) (n - p) = min (n - (p + 1)) (n - p) from rfl]; omega
  have h1c : ∀ x ∈ cs, x.oneCell' = true := by
    intro x hx; rw [hcs] at hx
    obtain ⟨y, _, rfl⟩ := List.mem_map.1 hx; rfl
  have hsc : off + n ≤ cur.size := by
    have := hc (n - 1) (by omega)
    have := (Array.getElem?_eq_some_iff.1 this).1
    omega
  have hfit : off + p + cs.length ≤ cur.toList.length := by rw [hcl]; simp; omega
  have hh2 : w.heap[g]? = some (.cells cur.toList.toArray 3 (0, 0)) := by simpa using hh
  have hat : ∀ j x, cs[j]? = some x → w.cell? ⟨g, off + (p + 1) + j, none⟩ = some x := by
    intro j x hx
    have hj : j < cs.length := (List.getElem?_eq_some_iff.1 hx).1
    rw [World.cell?, hh]
    simp only
    have := hc (p + 1 + j) (by omega)
    rw [show off + (p + 1) + j = off + (p + 1 + j) by omega, this]
    rw [hcs, List.getElem?_map, List.getElem?_drop, List.getElem?_eq_getElem (by omega)] at hx
    rw [List.getD_eq_getElem?_getD, List.getElem?_eq_getElem (by omega)]
    simpa [iv] using hx
  have hw1 : IntKind.i64.wrap ((n : Int) - 1) = (n : Int) - 1 := IntWalk.i64_in _ (by omega)
  have hw2 : IntKind.i64.wrap ((p : Int) + 1) = (p : Int) + 1 := IntWalk.i64_in _ (by omega)
  have hpi : (p : Int) < (n : Int) := by omega
  replace hend := hidI hend
  replace hcs := hidI hcs
  replace hcl := hidI hcl
  replace hmin := hidI hmin
  replace h1c := hidI h1c
  replace hfit := hidI hfit
  replace hh2 := hidI hh2
  replace hh := hidI hh
  replace hat := hidI hat
  replace hc := hidI hc
  replace hn := hidI hn
  replace hsz := hidI hsz
  clear hi0 hz0 hz1 hz2
  have hcp1 : ¬ cap = p := by omega
  have hBg : lo ≤ g := hlo
  have hpn : p ≤ n := by omega
  have hpn1 : 0 ≤ (p : Int) + 1 ∧ (p : Int) + 1 ≤ (n : Int) := by omega
  have hn1 : n - 1 ≤ cap := by omega
  have hcn : cs.length = n - (p + 1) := hcl.out
  have e1 : ((n : Int) - 1).toNat = n - 1 := by omega
  by_cases hcp2 : cap = p + 1
  · have h0 : ¬ 0 < cs.length := by omega
    replace hcn := hidI hcn
    go_enter Tryz.func35, Tryz.ntmps35
    go_upto_region 2 with fail
    go_region_law (refine step_copy_splice rfl (.tmp 11) (.tmp 15) 38 38 rfl 3 Tryz.underlying38 hsz.out (some ⟨g, off + p, none⟩) (some ⟨g, off, none⟩) (n - p) 1 (n - (p + 1)) 0 (by simp [Act.eval, Act.put]) (by simp [Act.eval, Act.put]) g (off + p) cur.toList 3 hh2.out cs hmin.out (fun h => absurd h h0) hfit.out h1c.out lo w (by exact (Below.refl lo w).drew) hBg ?_; intro w4 hh4 hb4)
    go_wp2
    go_ret
    exact ⟨_, rfl, hend.out _ hh4.out, hb4⟩
  · have hpos : 0 < cs.length → (some (⟨g, off + p, none⟩ : Addr)) = some ⟨g, off + p, none⟩ ∧ ∃ ad, (some (⟨g, off + (p + 1), none⟩ : Addr)) = some ad ∧ ∀ j x, cs[j]? = some x → w.drew.cell? (ad.add j) = some x := by
      intro h0
      refine ⟨rfl, _, rfl, fun j x hx => ?_⟩
      rw [World.cell?_drew]
      have := hat.out j x hx
      by_cases hj : j = 0
      · subst hj; simpa [Addr.add] using this
      · simpa [Addr.add, hj] using this
    replace hpos := hidI hpos
    replace hcn := hidI hcn
    go_enter Tryz.func35, Tryz.ntmps35
    go_upto_region 2 with fail
    go_region_law (refine step_copy_splice rfl (.tmp 11) (.tmp 15) 38 38 rfl 3 Tryz.underlying38 hsz.out (some ⟨g, off + p, none⟩) (some ⟨g, off + (p + 1), none⟩) (n - p) (cap - p) (n - (p + 1)) (cap - (p + 1)) (by simp [Act.eval, Act.put]) (by simp [Act.eval, Act.put]) g (off + p) cur.toList 3 hh2.out cs hmin.out hpos.out hfit.out h1c.out lo w (by exact (Below.refl lo w).drew) hBg ?_; intro w4 hh4 hb4)
    go_wp2
    go_ret
    exact ⟨_, rfl, hend.out _ hh4.out, hb4⟩
end Go.Proofs.YtecceaijdjnflaaGreat
