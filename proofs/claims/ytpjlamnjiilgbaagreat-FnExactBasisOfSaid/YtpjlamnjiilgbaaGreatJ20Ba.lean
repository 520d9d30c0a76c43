import Derived.Laws.CopyOwn
import Derived.Deep.RegionLaw
import Derived.Deep.LoopGhost
import Derived.Laws.MakeOwn
import Derived.Test.YtpjlamnjiilgbaaGreatJ0Ba
import Derived.Test.YtpjlamnjiilgbaaGreatJ11Ba
import Derived.Test.YtpjlamnjiilgbaaGreatJ6Ba
import Derived.Test.YtpjlamnjiilgbaaGreatJ19Ba
import Derived.Test.YtpjlamnjiilgbaaGreatJ3Ba
namespace Go.Proofs.YtpjlamnjiilgbaaGreat
open Go.RowKit
set_option linter.unusedVariables false
set_option linter.unusedSimpArgs false
theorem le_40 {k : Nat} (h : k ≤ 40) : k = 0 ∨ k = 1 ∨ k = 2 ∨ k = 3 ∨ k = 4 ∨ k = 5 ∨ k = 6 ∨ k = 7 ∨ k = 8 ∨ k = 9 ∨ k = 10 ∨ k = 11 ∨ k = 12 ∨ k = 13 ∨ k = 14 ∨ k = 15 ∨ k = 16 ∨ k = 17 ∨ k = 18 ∨ k = 19 ∨ k = 20 ∨ k = 21 ∨ k = 22 ∨ k = 23 ∨ k = 24 ∨ k = 25 ∨ k = 26 ∨ k = 27 ∨ k = 28 ∨ k = 29 ∨ k = 30 ∨ k = 31 ∨ k = 32 ∨ k = 33 ∨ k = 34 ∨ k = 35 ∨ k = 36 ∨ k = 37 ∨ k = 38 ∨ k = 39 ∨ k = 40 := by omega
set_option maxHeartbeats 4000000 in
theorem mul64_oneJ (w : World) (k : Nat) (hk : k ≤ 40) :
 Calls Tryz.prog 145 #[.int .u64 1, .int .u64 k] w fun e w' => e = .returned (.tuple #[.int .u64 0, .int .u64 k]) ∧ w = w' := by
 rcases le_40 hk with rfl | rfl | rfl | rfl | rfl | rfl | rfl | rfl | rfl | rfl | rfl | rfl | rfl | rfl | rfl | rfl | rfl | rfl | rfl | rfl | rfl | rfl | rfl | rfl | rfl | rfl | rfl | rfl | rfl | rfl | rfl | rfl | rfl | rfl | rfl | rfl | rfl | rfl | rfl | rfl | rfl
 all_goals
  go_enter Tryz.func145, Tryz.ntmps145
  go_wp2
  go_ret2
  exact ⟨rfl, rfl⟩
theorem mul_oneJ (w : World) (k : Nat) (hk : k ≤ 40) :
 Calls Tryz.prog 111 #[.int .u64 1, .int .u64 k] w fun e w' => e = .returned (.tuple #[.int .u64 0, .int .u64 k]) ∧ w = w' := by
 go_enter Tryz.func111, Tryz.ntmps111
 go_wp2_with fail
 refine (mul64_oneJ w k hk).mono ?_
 rintro e w' ⟨rfl, rfl⟩
 go_wp2
 go_ret2
 exact ⟨rfl, rfl⟩
def dupJ (v : Value) (k n : Nat) : List Value := List.replicate n v ++ List.replicate (k - n) (.int .i64 0)
theorem dupJ_length (v : Value) (k n : Nat) (h : n ≤ k) : (dupJ v k n).length = k := by simp [dupJ]; omega
theorem dupJ_splice (v : Value) (k n m : Nat) (h : n + m ≤ k) : splice (dupJ v k n) n (List.replicate m v) = dupJ v k (n + m) := by
 unfold splice dupJ
 rw [List.take_left' (by simp), List.length_replicate, List.drop_append, List.drop_of_length_le (by simp), List.nil_append, List.length_replicate, List.drop_replicate, ← List.append_assoc, List.replicate_append_replicate]
 congr 2
 omega
theorem dupJ_at {v : Value} {k n i : Nat} (h : i < n) : (dupJ v k n)[i]? = some v := by
 unfold dupJ
 rw [List.getElem?_append_left (by simpa using h)]
 simp [h]
theorem cell_newI (w : World) (v : Value) (T : TypeId) : (w.alloc (.cells #[v] T)).cell? ⟨w.heap.size, 0, none⟩ = some v := by rw [World.cell?, heap_alloc_new]; rfl
def RepRetI (w : World) (v : Value) (k : Nat) (e : Ending) (w' : World) : Prop :=
 ∃ g, e = .returned (.slice (some ⟨g, 0, none⟩) k k) ∧ w.heap.size ≤ g ∧ g < w'.heap.size ∧ w'.heap[g]? = some (.cells (List.replicate k v).toArray 3 (0, 0)) ∧ Below w.heap.size w w'
set_option maxRecDepth 100000 in
set_option maxHeartbeats 3200000 in
theorem repeatI_any (w : World) (b : Nat) (z0 : Int) (hb0 : b < w.heap.size) (hc0 : w.cell? ⟨b, 0, none⟩ = some (.int .i64 z0)) (k : Nat) (hk : k ≤ 40) :
 Calls Tryz.prog 73 #[.slice (some ⟨b, 0, none⟩) 1 1, .int .i64 k] w (RepRetI w (.int .i64 z0) k) := by
 obtain ⟨i0, hi, hz0, hz1, hz2⟩ := info_parts infoInt
 have hsz : (Tryz.prog.info? 3).map (·.size) = some 1 := by rw [hi]; simp [hz1]
 obtain ⟨v, hv⟩ := exq (Value.int .i64 z0)
 have h1 : ∀ m, ∀ x ∈ List.replicate m v, x.oneCell' = true := by
  intro m x hx
  rw [(List.mem_replicate.1 hx).2, hv]
  rfl
 rw [← hv] at hc0 ⊢
 replace hv := hidI hv
 replace h1 := hidI h1
 have hk0 : ¬ (k : Int) < 0 := by omega
 go_enter Tryz.func73, Tryz.ntmps73
 go_wp2_with fail
 refine (mul_oneJ w k hk).mono ?_
 rintro e w1 ⟨rfl, rfl⟩
 go_wp2_with (at_make; go_must (refine wpList_make_full _ rfl _ _ 46 rfl w.heap.size 3 i0 (.int .i64 0) 1 Tryz.underlying46 hi hz0 hz1 .i64 .i64 _ _ k rfl rfl rfl rfl ?c1 ?c2 ?c3 ?_))
 case c1 => rw [hz2]; omega
 case c2 => unfold maxLen; omega
 case c3 => exact Nat.le_refl _
 intro w1 hown hg
 have hb := (Below.refl w.heap.size w).grown hg (Nat.le_refl _) (by intro j hj; cases hj)
 have hh : w1.heap[w.heap.size]? = some (.cells (dupJ v k 0).toArray 3 (0, 0)) := by
  obtain ⟨_, ⟨h0, _⟩ | ⟨g, cap, cur, hv', hg', hh', hcap, hmax, hsz', htk⟩⟩ := hown
  · cases h0
  · simp only [Value.slice.injEq, Option.some.injEq, Addr.mk.injEq] at hv'
    obtain ⟨⟨rfl, _⟩, _, rfl⟩ := hv'
    rw [hh']
    congr 2
    rw [toList_madeCells_one] at htk
    rw [List.take_of_length_le (by simp; omega)] at htk
    rw [← Array.toList_inj, htk]
    simp [dupJ]
 have hbm := hg.size
 clear hg hown hi hz0 hz1 hz2
 obtain ⟨g, hgs⟩ := exq w.heap.size
 rw [← hgs] at hh
 have hcw : w1.cell? ⟨b, 0, none⟩ = some v := by rw [hb.cell (p := ⟨b, 0, none⟩) hb0]; exact hc0
 have hgw : ¬ w.heap.size ≤ b := by omega
 have hkk : ((k : Int) != (k : Int)) = false := by simp
 have hdl0 := dupJ_length v k 0 (by omega)
 replace hh := hidI hh
 replace hb := hidI hb
 have hmin : (List.replicate (min 1 k) v).length = Nat.min 1 k := by simp
 have hpos : 0 < (List.replicate (min 1 k) v).length → (some (⟨g, 0, none⟩ : Addr)) = some ⟨g, 0, none⟩ ∧ ∃ ad, (some (⟨b, 0, none⟩ : Addr)) = some ad ∧ ∀ j x, (List.replicate (min 1 k) v)[j]? = some x → w1.cell? (ad.add j) = some x := by
  intro h0
  refine ⟨rfl, _, rfl, fun j x hx => ?_⟩
  rw [List.getElem?_replicate] at hx
  split at hx
  · obtain rfl : j = 0 := by omega
    cases hx
    simpa [Addr.add] using hcw
  · cases hx
 have hfit : 0 + (List.replicate (min 1 k) v).length ≤ (dupJ v k 0).length := by rw [hdl0]; simp; omega
 have hspl := dupJ_splice v k 0 (min 1 k) (by omega)
 obtain ⟨cs, hcs⟩ := exq (List.replicate (min 1 k) v)
 have h1c : ∀ x ∈ cs, x.oneCell' = true := by rw [hcs]; exact h1.out _
 rw [← hcs] at hmin hpos hfit hspl
 have hcl : cs.length = min 1 k := hmin
 replace hmin := hidI hmin
 replace hpos := hidI hpos
 replace hspl := hidI hspl
 replace h1c := hidI h1c
 replace hcs := hidI hcs
 replace hgs := hidI hgs
 replace hsz := hidI hsz
 have hBg : w.heap.size ≤ g := by have := hgs.out; omega
 rw [← hgs.out]
 go_wp2_with (with_reducible refine wpList_copy_splice rfl (.tmp 31) (.tmp 32) 46 46 rfl 3 Tryz.underlying46 hsz.out (some ⟨g, 0, none⟩) (some ⟨b, 0, none⟩) k k 1 1 rfl rfl g 0 (dupJ v k 0) 3 hh.out cs hmin.out hpos.out hfit h1c.out w.heap.size w hb.out hBg ?_)
 intro w2 hh2 hb2
 rw [hspl.out, Nat.zero_add] at hh2
 obtain ⟨q, hq⟩ := exq (min 1 k)
 rw [← hq] at hh2 ⊢
 have hq1 : q ≤ k := by omega
 have hq2 : k = 0 ∨ 1 ≤ q := by omega
 have hgs2 : g < w2.heap.size := (Array.getElem?_eq_some_iff.1 hh2.out).1
 replace hq := hidI hq
 replace hq2 := hidI hq2
 replace hcl := hidI hcl
 replace hb := hidI hb.out
 clear hspl hpos hmin hcs h1c hfit hh hcw hcl hq hdl0
 go_wp2
 go_loopg [8] (k - q) (fun g' n wr => ∃ j : Nat, j ≤ k ∧ Hid (k = 0 ∨ 1 ≤ j) ∧ g' = k - j ∧ n = .int .i64 j ∧ Hid (wr.heap[g]? = some (.cells (dupJ v k j).toArray 3 (0, 0))) ∧ Below w.heap.size w wr)
 case atStart => exact ⟨q, hq1, hq2, rfl, rfl, hh2, hb2⟩
 case round =>
  clear hh2 hb2 hgs2 hq2
  obtain ⟨j, hj1, hj2, rfl, rfl, hh3, hb3⟩ := hrel
  by_cases hlt : j < k
  · have hj0 : 1 ≤ j := by have := hj2.out; omega
    obtain ⟨m, hm⟩ := exq (min j (k - j))
    have hspl := hidI (dupJ_splice v k j m (by omega))
    obtain ⟨cs, hcs⟩ := exq (List.replicate m v)
    have h1c : ∀ x ∈ cs, x.oneCell' = true := by rw [hcs]; exact h1.out _
    have hcl : cs.length = m := by rw [hcs]; simp
    have hmin : cs.length = Nat.min j (k - j) := by rw [hcl]; exact hm
    have hpos : 0 < cs.length → (some (⟨g, j, none⟩ : Addr)) = some ⟨g, j, none⟩ ∧ ∃ ad, (some (⟨g, 0, none⟩ : Addr)) = some ad ∧ ∀ i x, cs[i]? = some x → wr.drew.cell? (ad.add i) = some x := by
     intro h0
     refine ⟨rfl, _, rfl, fun i x hx => ?_⟩
     rw [hcs, List.getElem?_replicate] at hx
     split at hx
     · cases hx
       have hd : (dupJ v k j).toArray[i]? = some v := by rw [List.getElem?_toArray]; exact dupJ_at (by omega)
       rw [World.cell?_drew]
       by_cases hi : i = 0
       · subst hi; simpa [Addr.add, World.cell?, hh3.out] using hd
       · simpa [Addr.add, hi, World.cell?, hh3.out] using hd
     · cases hx
    have hfit : j + cs.length ≤ (dupJ v k j).length := by rw [hcl, dupJ_length v k j hj1]; omega
    rw [← hcs] at hspl
    have hmb : m ≤ k := by omega
    have hjm : j + m ≤ k := by omega
    have hm1 : 1 ≤ m := by omega
    have hjk : ¬ (k = j) := by omega
    have hlt2 : (j : Int) < (k : Int) := by omega
    have hmin3 : (j : Int) + (m : Int) ≤ 40 := by omega
    have hwr : IntKind.i64.wrap ((j : Int) + (m : Int)) = (j : Int) + (m : Int) := IntWalk.i64_in _ (by omega)
    replace hmin := hidI hmin
    replace hpos := hidI hpos
    replace h1c := hidI h1c
    replace hcs := hidI hcs
    replace hm := hidI hm
    replace hcl := hidI hcl
    go_wp2
    go_region_law (refine step_copy_splice rfl (.tmp 41) (.tmp 44) 46 46 rfl 3 Tryz.underlying46 hsz.out (some ⟨g, j, none⟩) (some ⟨g, 0, none⟩) (k - j) (k - j) j k (by simp [Act.eval, Act.put]) (by simp [Act.eval, Act.put]) g j (dupJ v k j) 3 hh3.out cs hmin.out (fun h0 => ⟨rfl, (hpos.out h0).2⟩) hfit h1c.out w.heap.size w (by exact hb3.drew) hBg ?_; intro w4 hh4 hb4; rw [hspl.out] at hh4; rw [hcl.out])
    go_wp2
    clear hwr
    go_roundg (k - (j + m))
    case rel => exact ⟨j + m, hjm, hidI (.inr (by omega)), rfl, by go_num, hh4, hb4⟩
    case measure => omega
  · obtain rfl : j = k := by omega
    have hd : dupJ v j j = List.replicate j v := by simp [dupJ]
    have hr : RepRetI w v j (.returned (.slice (some ⟨g, 0, none⟩) j j)) wr := ⟨g, rfl, hBg, (Array.getElem?_eq_some_iff.1 hh3.out).1, by rw [← hd]; exact hh3.out, hb3⟩
    replace hd := hidI hd
    replace hr := hidI hr
    go_wp2
    go_ret
    exact hr.out
def nmL (r s : Int) (es : List Ed) (zs : List Int) : List Int := if okN r s es zs = true then (plN s.toNat zs zs.length).map (fun x => x - 1) else []
def numV (L : List Int) : List Value := L.map (fun x => iv (x - 1))
theorem numV_set (L : List Int) (z : Nat) (k : Int) : (numV L).toArray.setIfInBounds z (.int .i64 k) = (numV (L.set z (k + 1))).toArray := by
 unfold numV
 rw [List.setIfInBounds_toArray, List.map_set, show k + 1 - 1 = k by omega]; rfl
theorem numV_cell {w : World} {P z : Nat} {L : List Int} (h : w.heap[P]? = some (.cells (numV L).toArray 3 (0, 0))) (hz : z < L.length) : w.cell? ⟨P, z, none⟩ = some (.int .i64 (L.getD z 0 - 1)) := by
 rw [World.cell?, h]
 simp only
 rw [List.getElem?_toArray, numV, List.getElem?_map, List.getElem?_eq_getElem hz, List.getD_eq_getElem?_getD, List.getElem?_eq_getElem hz]; rfl
theorem numV_zero (s : Nat) : List.replicate s (Value.int .i64 (-1)) = numV (List.replicate s 0) := by unfold numV; rw [List.map_replicate]; rfl
theorem numV_row {w : World} {lo P : Nat} {L : List Int} (h : w.heap[P]? = some (.cells (numV L).toArray 3 (0, 0))) (hlo : lo ≤ P) (hl : L.length ≤ 1000) : RowI w lo w.heap.size (.slice (some ⟨P, 0, none⟩) L.length L.length) (L.map (fun x => x - 1)) := by
 refine ⟨by rw [List.length_map]; omega, .inr ⟨P, 0, L.length, _, by rw [List.length_map], hlo, (Array.getElem?_eq_some_iff.1 h).1, by rw [List.length_map]; exact Nat.le_refl _, h, fun i hi => ?_⟩⟩
 rw [List.length_map] at hi
 rw [Nat.zero_add, List.getElem?_toArray, numV, List.getElem?_map, List.getElem?_eq_getElem hi, List.getD_eq_getElem?_getD, List.getElem?_map, List.getElem?_eq_getElem hi]; rfl
set_option maxRecDepth 100000 in
set_option maxHeartbeats 3200000 in
theorem numbers_any (w : World) (r s : Int) (v vo : Value) (es : List Ed) (zs : List Int) (h : ReadE w.heap.size w v es) (hl : es.length ≤ 10000000) (ho : ReadI w.heap.size w vo zs) (hlo : zs.length ≤ 10000000) :
 Calls Tryz.prog 175 #[.agg #[.int .i64 r, .int .i64 s, v], vo] w (LwIntsBool w (nmL r s es zs) (okN r s es zs)) := by
 obtain ⟨a, cap, rfl, hnc⟩ := h.form
 have ho' := ho
 obtain ⟨hol, oa, oc, rfl, _, _⟩ := ho'
 obtain ⟨n, hn⟩ := exq es.length
 obtain ⟨m, hm⟩ := exq zs.length
 rw [← hn] at h
 rw [← hn] at hl hnc ⊢
 rw [← hm] at hlo ho hol ⊢
 obtain ⟨w1, hw1⟩ := exq (w.alloc (.cells #[.int .i64 r, .int .i64 s, .slice a n cap] 26))
 have hb1 : Below w.heap.size w w1 := by rw [hw1]; exact (Below.refl _ _).alloc (Nat.le_refl _) _
 have hs1 : w.heap.size < w1.heap.size := by rw [hw1]; simp
 obtain ⟨g0, g1, g2⟩ := box3 hw1
 have his := progIsGr w1 r s (.slice a n cap) es ((h.below hb1).mono hb1.size) (by omega)
 obtain ⟨B, hB⟩ := exq (isGr r s es)
 rw [← hB] at his
 obtain ⟨O, hO⟩ := exq (okN r s es zs)
 obtain ⟨Z, hZ⟩ := exq (nmL r s es zs)
 rw [← hO, ← hZ]
 have hOe : O = (B && decide (m ≠ 0 ∧ (m : Int) ≤ s) && plAll s.toNat zs m) := by rw [hO, hB, hm]; rfl
 have hyes0 : isGr r s es = true → zs.length ≠ 0 → CoIn s.toNat zs → O = true := fun h1 h2 h3 => by rw [hO]; exact okN_iff.2 ⟨h1, h2, h3⟩
 have hno : O = false → Z = [] := fun hf => by rw [hZ]; unfold nmL; rw [← hO, hf]; rfl
 have hyes : O = true → Z = (plN s.toNat zs m).map (fun x => x - 1) := fun hf => by rw [hZ]; unfold nmL; rw [← hO, hf, hm]; rfl
 have hfin0 : ∀ W, O = false → Below w.heap.size w W → LwIntsBool w Z O (.returned (.tuple #[.slice none 0 0, .bool false])) W := fun W hf hb => by
  rw [hno hf, hf]
  exact ⟨_, rfl, ⟨by simp, .inl ⟨rfl, rfl⟩⟩, hb⟩
 have hww := hidI hw1.symm
 have hb01 := hidI hb1
 replace hfin0 := hidI hfin0
 replace hOe := hidI hOe
 replace hyes0 := hidI hyes0
 replace hno := hidI hno
 replace hyes := hidI hyes
 replace hn := hidI hn
 replace hm := hidI hm
 replace h := hidI h
 replace ho := hidI ho
 replace hO := hidI hO
 replace hZ := hidI hZ
 replace hw1 := hidI hw1
 go_enter Tryz.func175, Tryz.ntmps175
 go_upto_region 1 with fail
 rw [hww.out]
 go_wp2_with fail
 refine his.mono ?_
 rintro e w2 ⟨rfl, hb2⟩
 clear his
 have q0 := below_cell g0 hb2 hs1
 have q1 := below_cell g1 hb2 hs1
 have q2 := below_cell g2 hb2 hs1
 have hb02 := hidI (hb1.trans (hb2.mono hb1.size))
 have hs2 : w.heap.size < w2.heap.size := Nat.lt_of_lt_of_le hs1 hb2.size
 clear hb2 g0 g1 g2
 cases B with
 | false =>
  have hOf : O = false := by rw [hOe.out]; rfl
  have hfin := hidI (hfin0.out w2 hOf hb02.out)
  replace hB := hidI hB
  replace hOf := hidI hOf
  go_wp2
  go_ret2
  exact hfin.out
 | true =>
  have hgr := hidI hB.symm
  replace hB := hidI hB
  by_cases hm0 : m = 0
  · have hmz : ((m : Int) == 0) = true := by rw [beq_iff_eq]; omega
    have hOf : O = false := by rw [hOe.out, hm0]; rfl
    have hfin := hidI (hfin0.out w2 hOf hb02.out)
    replace hm0 := hidI hm0
    replace hOf := hidI hOf
    go_wp2
    go_ret2
    exact hfin.out
  · have hmz : ((m : Int) == 0) = false := by rw [beq_eq_false_iff_ne]; omega
    have hlim := isGr_lim hgr.out
    obtain ⟨sN, rfl⟩ : ∃ sN : Nat, s = (sN : Int) := ⟨s.toNat, by omega⟩
    rw [Int.toNat_natCast] at hOe hyes hyes0
    have hsN : sN ≤ 40 ∧ 1 ≤ sN := by omega
    replace hlim := hidI hlim
    replace hm0 := hidI hm0
    obtain ⟨wa, hwa⟩ := exq (w2.alloc (.cells #[.int .i64 (-1)] 3))
    have hba : Below w2.heap.size w2 wa := by rw [hwa]; exact (Below.refl _ _).alloc (Nat.le_refl _) _
    have hrep := repeatI_any wa w2.heap.size (-1) (by rw [hwa]; simp) (by rw [hwa]; exact cell_newI _ _ _) sN (by omega)
    have x0 := below_cell q0 hba hs2
    have x1 := below_cell q1 hba hs2
    have x2 := below_cell q2 hba hs2
    have hba2 := hidI hba
    have hwaw := hidI hwa.symm
    replace hwa := hidI hwa
    clear hba
    go_wp2_with fail
    rw [hwaw.out]
    refine hrep.mono ?_
    rintro e w3 ⟨P, rfl, hP1, hP2, hheap, hb3⟩
    clear hrep q0 q1 q2
    have hsa : w.heap.size < wa.heap.size := Nat.lt_of_lt_of_le hs2 hba2.out.size
    rw [numV_zero] at hheap
    have hst0 : Hid (w3.heap[P]? = some (.cells (numV (plN sN zs 0)).toArray 3 (0, 0))) := hidI hheap
    have hb23 : Below w2.heap.size w2 w3 := hba2.out.trans (hb3.mono hba2.out.size)
    have hP0 : w2.heap.size ≤ P := Nat.le_trans hba2.out.size hP1
    replace x0 := below_cell x0 hb3 hsa
    replace x1 := below_cell x1 hb3 hsa
    replace x2 := below_cell x2 hb3 hsa
    have hs3 : w.heap.size < w3.heap.size := by omega
    have hb03 := hidI (hb02.out.trans (hb23.mono hb02.out.size))
    clear hb3 hheap hb23
    go_wp2
    go_loopg [23] m (fun g i wr => ∃ k : Nat, k + g = m ∧ i = .int .i64 k ∧ Hid (wr.heap[P]? = some (.cells (numV (plN sN zs k)).toArray 3 (0, 0))) ∧ Hid (∀ j, j < k → plB sN zs j = true) ∧ Hid (Below P w3 wr))
    case atStart => exact ⟨0, by omega, rfl, hst0, hidI (fun j h => by omega), hidI (Below.refl _ _)⟩
    case round =>
     clear hst0
     obtain ⟨k, hk, rfl, hst, hall, hb⟩ := hrel
     have hbr := hidI (hb03.out.trans (hb.out.mono (by omega)))
     have y0 := below_cell x0 hb.out (by omega)
     have y1 := below_cell x1 hb.out (by omega)
     have y2 := below_cell x2 hb.out (by omega)
     by_cases hlt : k < m
     · have hki : (k : Int) < (m : Int) := by omega
       obtain ⟨ob, ooff, hab, hBo, co⟩ := (ho.out.below hbr.out).at2 k (by have := hm.out; omega)
       subst hab
       obtain ⟨z, hz⟩ := exq (zs.getD k 0)
       rw [← hz] at co
       have hvx := gpVertex wr r (sN : Int) z a n cap
       have hpB : plB sN zs k = (decide (0 ≤ z ∧ z < (sN : Int)) && decide ((plN sN zs k).getD z.toNat 0 = 0)) := by rw [hz]; rfl
       replace hz := hidI hz
       replace hpB := hidI hpB
       have hsw := hb.out.size
       have hswb : w.heap.size < wr.heap.size := by omega
       have hPr : P < wr.heap.size := (Array.getElem?_eq_some_iff.1 hst.out).1
       by_cases hr : 0 ≤ z ∧ z < (sN : Int)
       case neg =>
        have hOf : O = false := by
         rw [hOe.out, plAll_not (i := k) hlt (by rw [hpB.out, decide_eq_false hr]; rfl), Bool.and_false]
        rw [decide_eq_false hr] at hvx
        replace hr := hidI hr
        replace hOf := hidI hOf
        replace hk := hidI hk
        go_wp2_with fail
        refine hvx.mono ?_
        rintro e w5 ⟨rfl, hb5⟩
        have hfin := hidI (hfin0.out w5 hOf.out (hbr.out.trans (hb5.mono hbr.out.size)))
        clear hvx
        go_wp2
        go_ret2
        exact hfin.out
       case pos =>
        rw [decide_eq_true hr] at hvx
        obtain ⟨zN, rfl⟩ : ∃ zN : Nat, z = (zN : Int) := ⟨z.toNat, by omega⟩
        rw [Int.toNat_natCast] at hpB
        have hzN : zN < sN := by omega
        have hzi : (zN : Int) < (sN : Int) := by omega
        have hlen := plN_length sN zs k
        obtain ⟨L, hL⟩ := exq (plN sN zs k)
        rw [← hL] at hst hlen hpB
        obtain ⟨q, hq⟩ := exq (L.getD zN 0)
        rw [← hq] at hpB
        have hqb : 0 ≤ q ∧ q ≤ k := by rw [hq, hL]; exact plN_in sN zs k zN
        have hwq : (q - 1 : Int) = -1 ↔ q = 0 := by omega
        replace hr := hidI hr
        replace hk := hidI hk
        replace hq := hidI hq
        by_cases hq0 : q = 0
        case neg =>
         have hOf : O = false := by
          rw [hOe.out, plAll_not (i := k) hlt (by rw [hpB.out, decide_eq_false hq0, Bool.and_false]), Bool.and_false]
         have hne : ((q - 1 : Int) == -1) = false := by rw [beq_eq_false_iff_ne]; omega
         have hne2 : ((q - 1 : Int) != -1) = true := by rw [bne, hne]; rfl
         have hne3 : ¬ (q - 1 : Int) = -1 := by omega
         replace hOf := hidI hOf
         replace hlen := hidI hlen
         replace hL := hidI hL
         clear hwq
         go_wp2_with fail
         refine hvx.mono ?_
         rintro e w5 ⟨rfl, hb5⟩
         have hfin := hidI (hfin0.out w5 hOf.out (hbr.out.trans (hb5.mono hbr.out.size)))
         have cz := numV_cell (z := zN) (by rw [hb5.block P hPr]; exact hst.out) (by rw [hlen.out]; exact hzN)
         rw [← hq.out] at cz
         clear hvx
         go_wp2
         go_ret2
         exact hfin.out
        case pos =>
         have hne : ((q - 1 : Int) != -1) = false := by rw [hq0]; decide
         have hpk : plB sN zs k = true := by rw [hpB.out, hq0, decide_eq_true hr.out]; rfl
         have hne3 : (q - 1 : Int) = -1 := by omega
         have hLn : plN sN zs (k + 1) = L.set zN ((k : Int) + 1) := by rw [hL, plN, ← hz.out]; rfl
         replace hlen := hidI hlen
         replace hL := hidI hL
         replace hLn := hidI hLn
         replace hpk := hidI hpk
         replace hq0 := hidI hq0
         clear hwq
         go_wp2_with fail
         refine hvx.mono ?_
         rintro e w5 ⟨rfl, hb5⟩
         have hst5 : w5.heap[P]? = some (.cells (numV L).toArray 3 (0, 0)) := by rw [hb5.block P hPr]; exact hst.out
         have cz := numV_cell (z := zN) hst5 (by rw [hlen.out]; exact hzN)
         rw [← hq.out] at cz
         have fz := frozen_of_row w5 P zN _ _ hst5
         have hbz := hb.out.trans (hb5.mono (by omega))
         have hst6 : Hid ((w5.setCell ⟨P, zN, none⟩ (.int .i64 (k : Int))).heap[P]? = some (.cells (numV (plN sN zs (k + 1))).toArray 3 (0, 0))) := hidI (by
          rw [hLn.out, ← numV_set]
          exact heap_setCell_same w5 P zN _ _ _ hst5)
         have hb6 : Hid (Below P w3 (w5.setCell ⟨P, zN, none⟩ (.int .i64 (k : Int)))) := hidI (hbz.setCell (p := ⟨P, zN, none⟩) (Nat.le_refl _) _)
         have hall2 : Hid (∀ j, j < k + 1 → plB sN zs j = true) := hidI (fun j hj => by
          by_cases e : j = k
          · rw [e]; exact hpk.out
          · exact hall.out j (by omega))
         replace hst5 := hidI hst5
         clear hvx hbz
         go_wp2
         go_roundg (m - (k + 1))
         case rel => exact ⟨k + 1, by have := hk.out; omega, by go_num, hst6, hall2, hb6⟩
         case measure => have := hk.out; omega
     · obtain rfl : k = m := by omega
       have hpl : plAll sN zs k = true := (plAll_iff sN zs k).2 hall.out
       have hOt : O = true := hyes0.out hgr.out (by have := hm.out; have := hm0.out; omega) (plAll_iff2.1 (by rw [← hm.out]; exact hpl))
       have hfin : LwIntsBool w Z O (.returned (.tuple #[.slice (some ⟨P, 0, none⟩) sN sN, .bool true])) wr := by
        rw [hyes.out hOt, hOt]
        refine ⟨_, rfl, ?_, hbr.out⟩
        have hlen := plN_length sN zs k
        have := numV_row hst.out (lo := w.heap.size) (by omega) (by omega)
        rw [hlen] at this
        exact this
       replace hfin := hidI hfin
       replace hOt := hidI hOt
       replace hpl := hidI hpl
       replace hk := hidI hk
       go_wp2
       go_ret2
       exact hfin.out
def NilRet (w : World) (e : Ending) (w' : World) : Prop := e = .returned (.tuple #[]) ∧ Below w.heap.size w w'
set_option maxRecDepth 100000 in
set_option maxHeartbeats 1600000 in
theorem insert_nil (w : World) (f : Value) (hf : Hid (f = .func (.func 127) #[] #[])) :
 Calls Tryz.prog 177 #[.slice none 0 0, .int .i64 0, .int .i64 0, f] w (NilRet w) := by
 have hr : NilRet w (.returned (.tuple #[])) w := ⟨rfl, Below.refl _ _⟩
 replace hr := hidI hr
 go_enter Tryz.func177, Tryz.ntmps177
 go_wp2
 go_loopg [8] 1 (fun g i wr => i = .int .i64 1 ∧ g = 1 ∧ Hid (wr = w))
 case atStart => exact ⟨rfl, rfl, hidI rfl⟩
 case round =>
  obtain ⟨rfl, hg, hw⟩ := hrel
  replace hg := hidI hg
  go_wp2
  (try simp only [Exit.inBlock, Exit.then]); first | refine bodyPost_end (results_none rfl _ _ _) rfl ?_ | refine bodyPost_ret (results_none rfl _ _ _) rfl ?_
  rw [hw.out]; exact hr.out
set_option maxRecDepth 100000 in
set_option maxHeartbeats 1600000 in
theorem pdq_nil (w : World) (f : Value) (n : Int) (hf : Hid (f = .func (.func 127) #[] #[])) :
 Calls Tryz.prog 156 #[.slice none 0 0, .int .i64 0, .int .i64 0, .int .i64 n, f] w (NilRet w) := by
 have hi := insert_nil w f hf
 go_enter Tryz.func156, Tryz.ntmps156
 go_wp2_with fail
 go_loopg [1, 2] 1 (fun g i j wr => i = .int .i64 0 ∧ j = .int .i64 0 ∧ g = 1 ∧ Hid (wr = w))
 case atStart => exact ⟨rfl, rfl, rfl, hidI rfl⟩
 case round =>
  obtain ⟨rfl, rfl, hg, hw⟩ := hrel
  replace hg := hidI hg
  rw [← hw.out] at hi
  go_wp2_with fail
  refine hi.mono ?_
  rintro e w4 hr
  rw [hw.out] at hr
  obtain ⟨rfl, hb⟩ := hr
  go_wp2
  (try simp only [Exit.inBlock, Exit.then]); first | refine bodyPost_end (results_none rfl _ _ _) rfl ?_ | refine bodyPost_ret (results_none rfl _ _ _) rfl ?_
  exact ⟨rfl, hb⟩
set_option maxRecDepth 100000 in
set_option maxHeartbeats 1600000 in
theorem len64_zero (w : World) : Calls Tryz.prog 186 #[.int .u64 0] w (fun e w' => e = .returned (.int .i64 0) ∧ w' = w) := by
 go_enter Tryz.func186, Tryz.ntmps186
 go_wp2
 go_ret
 exact ⟨ret_i (by kernel_rfl), rfl⟩
theorem len_zero (w : World) : Calls Tryz.prog 157 #[.int .u64 0] w (fun e w' => e = .returned (.int .i64 0) ∧ w' = w) := by
 have h := len64_zero w
 go_enter Tryz.func157, Tryz.ntmps157
 go_wp2_with fail
 refine h.mono ?_
 rintro e w2 ⟨rfl, rfl⟩
 go_wp2
 go_ret
 exact ⟨rfl, rfl⟩
set_option maxHeartbeats 1600000 in
theorem sort_nil (w : World) (f : Value) (hf : Hid (f = .func (.func 127) #[] #[])) :
 Calls Tryz.prog 126 #[.slice none 0 0, f] w (NilRet w) := by
 have hq := pdq_nil w f 0 hf
 have hl := len_zero w
 go_enter Tryz.func126, Tryz.ntmps126
 go_wp2_with fail
 refine hl.mono ?_
 rintro e w2 ⟨rfl, h2⟩
 have h3 := h2.symm
 subst h3
 go_wp2_with fail
 refine hq.mono ?_
 rintro e w4 ⟨rfl, hb⟩
 go_wp2
 (try simp only [Exit.inBlock, Exit.then]); first | refine bodyPost_end (results_none rfl _ _ _) rfl ?_ | refine bodyPost_ret (results_none rfl _ _ _) rfl ?_
 exact ⟨rfl, hb⟩
def SortAll (base : Nat) (es : List Ed) (v : Value) (w : World) (e : Ending) (w' : World) : Prop :=
 e = .returned (.tuple #[]) ∧ Below base w w' ∧ ∃ ds : List Ed, ds.Perm es ∧ ds.Pairwise (fun a b => ¬ cmpE b a < 0) ∧ OwnsE w' base v ds
theorem sort_all (w : World) (base : Nat) (v : Value) (es : List Ed) (hown : OwnsE w base v es) (hb : base ≤ w.heap.size) (hl : es.length ≤ 100000) :
 Calls Tryz.prog 126 #[v, .func (.func 127) #[] #[]] w (SortAll base es v w) := by
 have hown' := hown
 have hlt := World.ownsRow.lt hown
 obtain ⟨_, ⟨rfl, h2⟩ | ⟨g, cap, cur, rfl, _⟩⟩ := hown'
 · have he : es = [] := List.length_eq_zero_iff.1 h2
   subst he
   refine (sort_nil w _ (hidI rfl)).mono ?_
   rintro e w' ⟨rfl, hb2⟩
   exact ⟨rfl, hb2.mono hb, [], List.Perm.refl _, List.Pairwise.nil, OwnsS.nil _ _⟩
 · refine (sortE_any w base g cap es hown hl).mono ?_
   rintro e w' ⟨rfl, hg, ds, hp, hs, ho⟩
   exact ⟨rfl, (Below.refl base w).grown hg hb (fun k hk => by cases hk; exact (hlt g rfl).1), ds, hp, hs, ho⟩
theorem nm_at {s : Nat} {zs : List Int} {i : Nat} (hi : i < s) : ((plN s zs zs.length).map (fun x => x - 1)).getD i 0 = (plN s zs zs.length).getD i 0 - 1 := by
 have := plN_length s zs zs.length
 rw [List.getD_eq_getElem?_getD, List.getElem?_map, List.getElem?_eq_getElem (by omega), List.getD_eq_getElem?_getD, List.getElem?_eq_getElem (by omega)]; rfl
theorem kept_length (pl : List Int) (es : List Ed) : (kept pl es).length ≤ es.length := by
 unfold kept
 rw [List.length_map]; exact List.length_filter_le _ _
set_option maxRecDepth 100000 in
set_option maxHeartbeats 6400000 in
theorem progRenum (w : World) (r s : Int) (v vo : Value) (es : List Ed) (zs : List Int) (h : ReadE w.heap.size w v es) (hl : es.length ≤ 10000000) (ho : ReadI w.heap.size w vo zs) (hlo : zs.length ≤ 10000000) :
 Calls Tryz.prog 152 #[.agg #[.int .i64 r, .int .i64 s, v], vo] w (LwGraphBool w r (rnS r s es zs) (rnE r s es zs) (okN r s es zs)) := by
 obtain ⟨a, cap, rfl, hnc⟩ := h.form
 have ho' := ho
 obtain ⟨hol, oa, oc, rfl, _, _⟩ := ho'
 obtain ⟨n, hn⟩ := exq es.length
 obtain ⟨m, hm⟩ := exq zs.length
 rw [← hn] at h
 rw [← hn] at hl hnc ⊢
 rw [← hm] at hlo ho hol ⊢
 obtain ⟨w1, hw1⟩ := exq ((w.alloc (.cells #[.int .i64 r, .int .i64 s, .slice a n cap] 26)).alloc (.cells #[.int .i64 0, .int .i64 0, .slice none 0 0] 26))
 have hb1 : Below w.heap.size w w1 := by rw [hw1]; exact ((Below.refl _ _).alloc (Nat.le_refl _) _).alloc (by simp) _
 have hs1 : w1.heap.size = w.heap.size + 1 + 1 := by rw [hw1]; simp
 have hg := heap_box w (.cells #[.int .i64 r, .int .i64 s, .slice a n cap] 26) (.cells #[.int .i64 0, .int .i64 0, .slice none 0 0] 26)
 have hR := heap_alloc_new (w.alloc (.cells #[.int .i64 r, .int .i64 s, .slice a n cap] 26)) (.cells #[.int .i64 0, .int .i64 0, .slice none 0 0] 26)
 rw [← hw1] at hg hR
 rw [show (w.alloc (.cells #[.int .i64 r, .int .i64 s, .slice a n cap] 26)).heap.size = w.heap.size + 1 by simp] at hR
 have g0 : w1.cell? ⟨w.heap.size, 0, none⟩ = some (.int .i64 r) := by simpa using cell_of_heap hg 0
 have g1 : w1.cell? ⟨w.heap.size, 1, none⟩ = some (.int .i64 s) := by simpa using cell_of_heap hg 1
 have g2 : w1.cell? ⟨w.heap.size, 2, none⟩ = some (.slice a n cap) := by simpa using cell_of_heap hg 2
 have hnum := numbers_any w1 r s (.slice a n cap) (.slice oa m oc) es zs (by have := (h.below hb1).mono hb1.size; rw [hn] at this ⊢; exact this) (by omega) (by have := (ho.below hb1).mono hb1.size; rw [hm] at this ⊢; exact this) (by omega)
 obtain ⟨O, hO⟩ := exq (okN r s es zs)
 obtain ⟨ZS, hZS⟩ := exq (rnS r s es zs)
 obtain ⟨ZE, hZE⟩ := exq (rnE r s es zs)
 obtain ⟨Z, hZ⟩ := exq (nmL r s es zs)
 rw [← hO, ← hZ] at hnum
 rw [← hO, ← hZS, ← hZE]
 have hno : O = false → ZS = s ∧ ZE = es := fun hf => by rw [hZS, hZE]; unfold rnS rnE; rw [← hO, hf]; exact ⟨rfl, rfl⟩
 have hyes : O = true → ZS = (m : Int) ∧ ZE = rnE r s es zs ∧ okN r s es zs = true ∧ Z = (plN s.toNat zs zs.length).map (fun x => x - 1) := fun hf => by
  rw [hZS, hZ]; unfold rnS nmL; rw [← hO, hf, hm]; exact ⟨rfl, hZE, rfl, rfl⟩
 have hRk : ∀ W, Below w1.heap.size w1 W → W.heap[w.heap.size + 1]? = some (.cells #[.int .i64 0, .int .i64 0, .slice none 0 0] 26 (0, 0)) := fun W hW => by rw [hW.block _ (by omega)]; exact hR
 have hcopy := fun (W : World) (hr : ReadE W.heap.size W (.slice a es.length cap) es) => gpCopy W r s _ es hr (by omega)
 rw [← hn] at hcopy
 have hww := hidI hw1.symm
 replace hcopy := hidI hcopy
 replace hno := hidI hno
 replace hyes := hidI hyes
 replace hRk := hidI hRk
 replace hn := hidI hn
 replace hm := hidI hm
 replace h := hidI h
 replace ho := hidI ho
 replace hg := hidI hg
 replace hR := hidI hR
 replace hs1 := hidI hs1
 replace hO := hidI hO
 replace hZS := hidI hZS
 replace hZE := hidI hZE
 replace hZ := hidI hZ
 replace hw1 := hidI hw1
 go_enter Tryz.func152, Tryz.ntmps152
 go_upto_region 1 with fail
 rw [hww.out]
 go_wp2_with fail
 refine hnum.mono ?_
 rintro e w2 ⟨nv, rfl, hrow, hb2⟩
 clear hnum
 have hlt1 : w.heap.size + 1 < w1.heap.size := by have := hs1.out; omega
 have hlt2 : w.heap.size + 1 < w2.heap.size := by have := hb2.size; omega
 replace g0 := below_cell g0 hb2 (by omega)
 replace g1 := below_cell g1 hb2 (by omega)
 replace g2 := below_cell g2 hb2 (by omega)
 have hb12 := hidI (hb1.trans (hb2.mono hb1.size))
 have hb12' := hidI hb2
 clear hb2
 cases O with
 | false =>
  obtain ⟨hZS0, hZE0⟩ := hno.out rfl
  have hcc := hcopy.out w2 ((h.out.below hb12.out).mono hb12.out.size)
  replace hZS0 := hidI hZS0
  replace hZE0 := hidI hZE0
  replace hrow := hidI hrow
  go_wp2_with fail
  refine hcc.mono ?_
  rintro e w5 ⟨ca, cc, rfl, hrow5, hb5⟩
  rw [← hn.out]
  rw [← hn.out] at hrow5
  clear hcc
  have hb15 : Below w.heap.size w w5 := hb12.out.trans (hb5.mono hb12.out.size)
  have hR5 := hRk.out w5 (hb12'.out.trans (hb5.mono hb12'.out.size))
  obtain ⟨y0, y1, y2⟩ := cell3 hR5
  have f2 := fun j => frozen_of_row w5 (w.heap.size + 1) j _ _ hR5
  simp at y0 y1 y2
  have hfin : LwGraphBool w r s es false (.returned (.tuple #[.agg #[.int .i64 r, .int .i64 s, .slice ca n cc], .bool false])) (((w5.setCell ⟨w.heap.size + 1, 0, none⟩ (.int .i64 r)).setCell ⟨w.heap.size + 1, 1, none⟩ (.int .i64 s)).setCell ⟨w.heap.size + 1, 2, none⟩ (.slice ca n cc)) := by
   have hrw := hrow5
   rw [hn.out] at hrw
   rw [hn.out]
   exact ⟨ca, cc, rfl, (RowS.set3_ hrw (.inl hlt2)).wide hb12.out.size (by rw [size_set3]; exact Nat.le_refl _), below_set3 hb15 (by omega)⟩
  have hset := set3 hR5 (.int .i64 r) (.int .i64 s) (.slice ca n cc)
  replace hfin := hidI hfin
  replace hset := hidI hset
  replace hR5 := hidI hR5
  replace hrow5 := hidI hrow5
  replace hb5 := hidI hb5
  replace hb15 := hidI hb15
  clear g0 g1 g2
  go_wp2
  (try simp only [Exit.inBlock, Exit.then])
  refine ret_cell2 (x := .bool false) rfl rfl rfl hset.out Tryz.underlying26 sizeGraph ?_
  rw [hZS0.out, hZE0.out]
  exact hfin.out
 | true =>
  obtain ⟨hZS1, hZE1, hok, hZ1⟩ := hyes.out rfl
  have hgr := (okN_iff.1 hok).1
  have hlim := isGr_lim hgr
  obtain ⟨sN, rfl⟩ : ∃ sN : Nat, s = (sN : Int) := ⟨s.toNat, by omega⟩
  rw [Int.toNat_natCast] at hZ1
  have hsN : sN ≤ 40 ∧ 1 ≤ sN := by omega
  have hn120 : n ≤ 120 := by have := hn.out; omega
  have hin := plN_in sN zs zs.length
  have hplen := plN_length sN zs zs.length
  have hcell : ∀ i, i < sN → Z.getD i 0 = (plN sN zs zs.length).getD i 0 - 1 := fun i hi => by rw [hZ1]; exact nm_at hi
  have hZl : Z.length = sN := by rw [hZ1, List.length_map]; exact hplen
  have hmz : zs.length ≤ 40 := by have := (okN_iff.1 hok).2.2.len; simp at this; omega
  obtain ⟨gz, oz, zc, rfl, hgz1, hgz2⟩ := hrow.form (by omega)
  rw [hZl] at hrow ⊢
  obtain ⟨PL, hPL⟩ := exq (plN sN zs zs.length)
  rw [← hPL] at hin hcell
  have hrd := hrow.read
  replace hrow := hidI hrow
  replace hrd := hidI hrd
  replace hin := hidI hin
  replace hcell := hidI hcell
  replace hZ1 := hidI hZ1
  replace hZS1 := hidI hZS1
  replace hZE1 := hidI hZE1
  replace hok := hidI hok
  replace hgr := hidI hgr
  replace hlim := hidI hlim
  replace hPL := hidI hPL
  replace hplen := hidI hplen
  replace hZl := hidI hZl
  have hst0 : Hid (OwnsE w2 w2.heap.size (.slice none 0 0) (kept PL (es.take 0))) := hidI (OwnsS.nil _ _)
  go_wp2
  go_loopg [8, 26] n (fun g u i wr => ∃ k : Nat, k + g = n ∧ i = .int .i64 k ∧ Hid (OwnsE wr w2.heap.size u (kept PL (es.take k))) ∧ Hid (Below w2.heap.size w2 wr))
  case atStart => exact ⟨0, by omega, rfl, hst0, hidI (Below.refl _ _)⟩
  case round =>
   clear hst0
   obtain ⟨k, hk, rfl, hst, hb⟩ := hrel
   have q2 := below_cell g2 hb.out (by omega)
   have hbr := hidI (hb12.out.trans (hb.out.mono hb12.out.size))
   have hsz := hb.out.size
   obtain ⟨ua, um, uc, rfl⟩ := OwnsS.form3 hst.out
   by_cases hlt : k < n
   · have hki : (k : Int) < (n : Int) := by omega
     have hjl : k < es.length := by have := hn.out; omega
     obtain ⟨b, off, hab, hBb, x0, x1, x2⟩ := ReadE.at3 (h.out.below hbr.out) k hjl
     subst hab
     have hee := gr_mem8 hgr.out (e := es.getD k e0) (by rw [getE_el hjl]; exact List.getElem_mem hjl)
     have hkn : kept PL (es.take (k + 1)) = if inP PL (es.getD k e0) = true then kept PL (es.take k) ++ [numE PL (es.getD k e0)] else kept PL (es.take k) := by rw [take_oneE8 hjl, kept_snoc]
     have hkl := kept_length PL (es.take k)
     rw [List.length_take] at hkl
     obtain ⟨f, hf⟩ := exq ((es.getD k e0).1)
     obtain ⟨l, hll⟩ := exq ((es.getD k e0).2.1)
     obtain ⟨t, ht⟩ := exq ((es.getD k e0).2.2)
     unfold inP numE at hkn
     rw [← hf, ← hll, ← ht] at hkn
     rw [← hf] at x0
     rw [← hll] at x1
     rw [← ht] at x2
     rw [← hf, ← ht] at hee
     obtain ⟨fN, hfN⟩ : ∃ fN : Nat, f = (fN : Int) := ⟨f.toNat, by omega⟩
     subst hfN
     obtain ⟨tN, htN⟩ : ∃ tN : Nat, t = (tN : Int) := ⟨t.toNat, by omega⟩
     subst htN
     rw [Int.toNat_natCast, Int.toNat_natCast] at hkn
     have hfs : fN < sN := by omega
     have hts : tN < sN := by omega
     have hfi : (fN : Int) < (sN : Int) := by omega
     have hti : (tN : Int) < (sN : Int) := by omega
     have hcA := hcell.out fN hfs
     have hcB := hcell.out tN hts
     have hiA := hin.out fN
     have hiB := hin.out tN
     obtain ⟨A, hA⟩ := exq (PL.getD fN 0 - 1)
     obtain ⟨Q, hQ⟩ := exq (PL.getD tN 0 - 1)
     have hAp : (0 < PL.getD fN 0 ↔ A ≠ -1) := by omega
     have hQp : (0 < PL.getD tN 0 ↔ Q ≠ -1) := by omega
     have hAb : -1 ≤ A ∧ A ≤ 40 := by omega
     have hQb : -1 ≤ Q ∧ Q ≤ 40 := by omega
     have hdec : decide (0 < PL.getD fN 0 ∧ 0 < PL.getD tN 0) = decide (A ≠ -1 ∧ Q ≠ -1) := decide_eq_decide.2 (and_congr hAp hQp)
     rw [hdec, ← hA, ← hQ] at hkn
     clear hdec
     rw [← hA] at hcA
     rw [← hQ] at hcB
     obtain ⟨w4, hw4⟩ := exq (wr.alloc (.cells #[.int .i64 fN, .int .i64 l, .int .i64 tN] 72))
     have hb4 : Below wr.heap.size wr w4 := by rw [hw4]; exact (Below.refl _ _).alloc (Nat.le_refl _) _
     have hs4 : wr.heap.size < w4.heap.size := by rw [hw4]; simp
     obtain ⟨e0_, e1_, e2_⟩ := box3 hw4
     have hrd4 := hrd.out.below (hb.out.trans (hb4.mono hsz))
     obtain ⟨b1, o1, hab1, hB1, cA⟩ := hrd4.at2 fN (by have := hZl.out; omega)
     obtain ⟨b2, o2, hab2, hB2, cB⟩ := hrd4.at2 tN (by have := hZl.out; omega)
     simp only [Option.some.injEq, Addr.mk.injEq, and_true] at hab1 hab2
     obtain ⟨rfl, rfl⟩ := hab1
     obtain ⟨rfl, rfl⟩ := hab2
     rw [hcA] at cA
     rw [hcB] at cB
     have hown4 : Hid (OwnsE w4 w2.heap.size (.slice ua um uc) (kept PL (es.take k))) := hidI (OwnsS.later hst.out hb4 (Nat.le_refl _))
     have hb24 := hidI (hb.out.trans (hb4.mono hsz))
     have hgrw : gz < wr.heap.size := by omega
     replace hf := hidI hf
     replace hll := hidI hll
     replace ht := hidI ht
     replace hA := hidI hA
     replace hQ := hidI hQ
     replace hk := hidI hk
     replace hee := hidI hee
     replace hst := hidI hst
     replace hkl := hidI hkl
     replace hiA := hidI hiA
     replace hiB := hidI hiB
     clear hAp hQp hcA hcB
     go_upto_region 8 with fail
     rw [← hw4]
     replace hw4 := hidI hw4
     clear x0 x1 x2 q2
     go_region
     have hown0 : Hid (OwnsE w4.drew w2.heap.size (.slice ua um uc) (kept PL (es.take k))) := hidI hown4.out
     have hb20 : Hid (Below w2.heap.size w2 w4.drew) := hidI (below_dn hb24.out 1)
     have hs0 : wr.heap.size < w4.drew.heap.size := hs4
     by_cases hA0 : A = -1
     case pos =>
      have hnx : kept PL (es.take (k + 1)) = kept PL (es.take k) := by rw [hkn, if_neg]; rw [decide_eq_true_eq]; omega
      have hst7 : Hid (OwnsE w4.drew w2.heap.size (.slice ua um uc) (kept PL (es.take (k + 1)))) := hidI (by rw [hnx]; exact hown0.out)
      have hne : (A != -1) = false := by rw [bne_eq_false_iff_eq]; exact hA0
      replace hnx := hidI hnx
      replace hkn := hidI hkn
      go_wp2
      go_roundg (n - (k + 1))
      case rel => exact ⟨k + 1, by have := hk.out; omega, by go_num, hst7, hb20⟩
      case measure => have := hk.out; omega
     have hneA : (A != -1) = true := by rw [bne_iff_ne]; exact hA0
     by_cases hQ0 : Q = -1
     case pos =>
      have hnx : kept PL (es.take (k + 1)) = kept PL (es.take k) := by rw [hkn, if_neg]; rw [decide_eq_true_eq]; omega
      have hst7 : Hid (OwnsE w4.drew w2.heap.size (.slice ua um uc) (kept PL (es.take (k + 1)))) := hidI (by rw [hnx]; exact hown0.out)
      have hne : (Q != -1) = false := by rw [bne_eq_false_iff_eq]; exact hQ0
      replace hnx := hidI hnx
      replace hkn := hidI hkn
      go_wp2
      go_roundg (n - (k + 1))
      case rel => exact ⟨k + 1, by have := hk.out; omega, by go_num, hst7, hb20⟩
      case measure => have := hk.out; omega
     have hneQ : (Q != -1) = true := by rw [bne_iff_ne]; exact hQ0
     have hnx : kept PL (es.take (k + 1)) = kept PL (es.take k) ++ [(A, l, Q)] := by rw [hkn, if_pos]; rw [decide_eq_true_eq]; exact ⟨hA0, hQ0⟩
     replace hnx := hidI hnx
     replace hkn := hidI hkn
     obtain ⟨F, hF⟩ := exq (kept PL (es.take k))
     rw [← hF] at hown0 hkl hnx
     replace hF := hidI hF
     go_wp2_with (at_builtin; go_must (refine wpList_pushE rfl _ _ rfl w2.heap.size (.slice ua um uc) F _ _ _ rfl rfl hown0.out (by have := hkl.out; omega) (by omega) ?_))
     intro v' w6 hown6 hb6
     have hst7 : Hid (OwnsE w6 w2.heap.size v' (kept PL (es.take (k + 1)))) := hidI (by rw [hnx.out]; exact hown6)
     have hb26 := hidI (hb20.out.trans hb6)
     clear hown6 hb6
     go_wp2
     go_roundg (n - (k + 1))
     case rel => exact ⟨k + 1, by have := hk.out; omega, by go_num, hst7, hb26⟩
     case measure => have := hk.out; omega
   · obtain rfl : k = n := by omega
     have hfull : es.take k = es := by rw [hn.out]; exact List.take_length
     rw [hfull] at hst
     have hkl := kept_length PL es
     have hsort := sort_all wr w2.heap.size (.slice ua um uc) (kept PL es) hst.out hsz (by have := hn.out; omega)
     have q0 := below_cell g0 hb.out (by omega)
     replace hfull := hidI hfull
     replace hk := hidI hk
     replace hkl := hidI hkl
     go_wp2_with fail
     refine hsort.mono ?_
     rintro e w5 ⟨rfl, hb5, ds, hp, hs, hown5⟩
     clear hsort
     have hds : ds = ZE := by rw [hZE1.out]; exact ren_sorted hok.out (by rw [Int.toNat_natCast, ← hPL.out]; exact hp) hs
     subst hds
     have hb15 : Below w.heap.size w w5 := hb12.out.trans ((hb.out.trans hb5).mono hb12.out.size)
     have hR5 := hRk.out w5 (hb12'.out.trans ((hb.out.trans hb5).mono hb12'.out.size))
     have z0 := below_cell q0 hb5 (by omega)
     obtain ⟨y0, y1, y2⟩ := cell3 hR5
     have f2 := fun j => frozen_of_row w5 (w.heap.size + 1) j _ _ hR5
     simp at y0 y1 y2
     have hum := (OwnsS.row hown5 (by have := hp.length_eq; have := hkl.out; have := hn.out; omega)).cap.1
     have hdl : ds.length ≤ 1000 := by have := hp.length_eq; have := hkl.out; have := hn.out; omega
     subst hum
     have hfin : LwGraphBool w r (m : Int) ds true (.returned (.tuple #[.agg #[.int .i64 r, .int .i64 (m : Int), .slice ua ds.length uc], .bool true])) (((w5.setCell ⟨w.heap.size + 1, 0, none⟩ (.int .i64 r)).setCell ⟨w.heap.size + 1, 1, none⟩ (.int .i64 (m : Int))).setCell ⟨w.heap.size + 1, 2, none⟩ (.slice ua ds.length uc)) := by
      refine ⟨ua, uc, rfl, (RowS.set3_ (OwnsS.row hown5 (by omega)) (.inl hlt2)).wide hb12.out.size (by rw [size_set3]; exact Nat.le_refl _), below_set3 hb15 (by omega)⟩
     have hset := set3 hR5 (.int .i64 r) (.int .i64 (m : Int)) (.slice ua ds.length uc)
     replace hfin := hidI hfin
     replace hset := hidI hset
     replace hR5 := hidI hR5
     replace hown5 := hidI hown5
     replace hb5 := hidI hb5
     replace hb15 := hidI hb15
     replace hp := hidI hp
     replace hs := hidI hs
     clear g0 g1 g2 q0 q2
     go_wp2
     (try simp only [Exit.inBlock, Exit.then])
     refine ret_cell2 (x := .bool true) rfl rfl rfl hset.out Tryz.underlying26 sizeGraph ?_
     rw [hZS1.out]
     exact hfin.out
end Go.Proofs.YtpjlamnjiilgbaaGreat
