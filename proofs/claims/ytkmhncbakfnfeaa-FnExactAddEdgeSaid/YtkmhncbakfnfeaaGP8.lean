/- Graphs, the program: slices.Grow of nil and slices.Concat at edges. -/
import Derived.Test.YtkmhncbakfnfeaaGP4
import Derived.Lib.AppendZeros
import Derived.Deep.LoopGhost
namespace Go.Proofs.Ytkmhncbakfnfeaa
open Go.RowKit
set_option linter.unusedVariables false
set_option linter.unusedSimpArgs false

/-- v can be read as the lists of edges ess; all lies below block B. -/
def ReadLE (B : Nat) (w : World) (v : Value) (ess : List (List Ed)) : Prop :=
  ess.length ≤ 140737488355328 ∧ ∃ a cap, v = .slice a ess.length cap ∧ (ess = [] ∨ ∃ b off, a = some ⟨b, off, none⟩ ∧ b < B ∧ ∀ i, i < ess.length → ∃ vi, w.cell? ⟨b, off + i, none⟩ = some vi ∧ ReadE B w vi (ess.getD i []))
theorem ReadLE.at_ {B : Nat} {w : World} {a : Option Addr} {n cap : Nat} {ess : List (List Ed)} (h : ReadLE B w (.slice a n cap) ess) (i : Nat) (hi : i < ess.length) :
    ∃ b off vi, a = some ⟨b, off, none⟩ ∧ b < B ∧ w.cell? ⟨b, off + i, none⟩ = some vi ∧ ReadE B w vi (ess.getD i []) := by
  obtain ⟨_, a', cap', hv, hr⟩ := h
  simp only [Value.slice.injEq] at hv
  obtain ⟨rfl, _, rfl⟩ := hv
  rcases hr with h0 | ⟨b, off, ha, hB, hc⟩
  · rw [h0] at hi; simp at hi
  · obtain ⟨vi, h1, h2⟩ := hc i hi
    exact ⟨b, off, vi, ha, hB, h1, h2⟩
theorem takeE_flat {ess : List (List Ed)} {k : Nat} (h : k < ess.length) : (ess.take (k + 1)).flatten = (ess.take k).flatten ++ ess.getD k [] := by
  rw [List.take_succ_eq_append_getElem h, List.flatten_append, List.getD_eq_getElem?_getD, List.getElem?_eq_getElem h]; simp
theorem takeE_flat_le (ess : List (List Ed)) (k : Nat) : (ess.take k).flatten.length ≤ ess.flatten.length := by
  have : ess.flatten = (ess.take k).flatten ++ (ess.drop k).flatten := by rw [← List.flatten_append, List.take_append_drop]
  rw [this, List.length_append]; omega
/-- What Grow of nil leaves. -/
def GrowRetE (w : World) (e : Ending) (w' : World) : Prop := ∃ v, e = .returned v ∧ OwnsE w' w.heap.size v [] ∧ Below w.heap.size w w'
theorem growE_own (w : World) (cap : Nat) (C : Array Value) (hc : cap ≤ maxLen) (hC : C.size = cap * 3) :
    GrowRetE w (.returned (.slice (some ⟨w.heap.size, 0, none⟩) 0 cap)) (w.drew.alloc (.cells C 25)) := by
  refine ⟨_, rfl, World.ownsRow_made w.drew C cap (Nat.le_refl _) hc (by omega), ?_⟩
  exact (below_dn (Below.refl _ _) 1).alloc (Nat.le_refl _) _
set_option maxHeartbeats 800000 in
theorem gpGrow (w : World) (n : Nat) (hl : n ≤ 1000000000) :
    Calls Try.prog 52 #[.slice none 0 0, .int .i64 n] w (GrowRetE w) := by
  obtain ⟨i0, hi, hz0, hz1, hz2⟩ := info_parts infoEdge
  rcases Nat.eq_zero_or_pos n with h0 | h0
  · subst h0
    have hr : GrowRetE w (.returned (.slice none 0 0)) w := ⟨_, rfl, World.ownsRow_nil _ _ _ _, Below.refl _ _⟩
    replace hr := hidI hr
    clear hi hz0 hz1 hz2
    go_enter Try.func52, Try.ntmps52
    go_wp2
    go_ret
    exact hr.out
  · have hap : ∀ (W : World) (ty : TypeId), ∃ cap C, cap ≤ maxLen ∧ C.size = cap * 3 ∧ (Builtin.append_ #[28, 3] ty #[.slice none 0 0, .int .i64 n]).run Try.prog W = .ok (.slice (some ⟨W.heap.size, 0, none⟩) n cap) (W.drew.alloc (.cells C 25)) := by
      intro W ty
      refine ⟨_, _, grownCap_le_maxLen W n 0 25 (by unfold maxLen; omega), ?_, Lib.run_append_nil_zeros W _ _ ty _ i0 (.agg #[.int .i64 0, .int .i64 0, .int .i64 0]) .i64 .i64 Try.underlying28 Try.underlying3 hi hz0 n h0 (by omega) (by omega) (by rw [hz2]; omega)⟩
      have := grownCap_ge W n 0 25
      simp [Builtin.zeroCells, Value.cells]
      omega
    have hp : (0 : Int) < (n : Int) := by omega
    have hng : ¬ (n : Int) < 0 := by omega
    clear hi hz0 hz1 hz2
    go_enter Try.func52, Try.ntmps52
    obtain ⟨cap, C, hc, hC, hrun⟩ := hap w 28
    have hr := hidI (growE_own w cap C hc hC)
    replace hrun := hidI hrun
    replace hap := hidI hap
    go_wp2_with (at_builtin; go_must (refine Lib.wpList_append_run _ rfl _ _ _ _ rfl _ _ rfl rfl _ _ hrun.out ?_))
    go_wp2
    go_ret
    exact hr.out
set_option maxHeartbeats 1600000 in
theorem gpConcat (w : World) (v : Value) (ess : List (List Ed)) (h : ReadLE w.heap.size w v ess) (hl : ess.flatten.length ≤ 1000000000) :
    Calls Try.prog 44 #[v] w (LwEdges w ess.flatten) := by
  have hread := h
  obtain ⟨hml, a, cap, rfl, hq⟩ := h
  clear hq
  obtain ⟨m, hm⟩ : ∃ m, m = ess.length := ⟨_, rfl⟩
  rw [← hm] at hml hread ⊢
  have hlen := hidI (takeE_flat_le ess)
  replace hm := hidI hm
  replace hread := hidI hread
  go_enter Try.func44, Try.ntmps44
  go_wp2
  go_loopg [3, 11] m (fun g s i wr => ∃ k t : Nat, k + g = m ∧ i = .int .i64 k ∧ s = .int .i64 t ∧ Hid (t = (ess.take k).flatten.length) ∧ Hid (wr = w))
  case atStart => exact ⟨0, 0, by omega, rfl, rfl, hidI rfl, hidI rfl⟩
  case round =>
    obtain ⟨k, t, hk, rfl, rfl, ht, hwr⟩ := hrel
    have hwr' := hwr.out.symm
    subst hwr'
    have htl : t ≤ 1000000000 := by have := ht.out; have := hlen.out k; omega
    by_cases hlt : k < m
    · obtain ⟨b, off, vi, rfl, hB, hcell, hri⟩ := hread.out.at_ k (by have := hm.out; omega)
      have hstep := takeE_flat (ess := ess) (k := k) (by have := hm.out; omega)
      have hlen2 := hlen.out (k + 1)
      obtain ⟨z, hz⟩ : ∃ z, z = ess.getD k [] := ⟨_, rfl⟩
      rw [← hz] at hri hstep
      obtain ⟨hzl, _, a2, cap2, rfl, hq1, hq2⟩ := hri
      obtain ⟨n, hn⟩ : ∃ n, n = z.length := ⟨_, rfl⟩
      rw [← hn] at hcell
      have ht2 : t + n = (ess.take (k + 1)).flatten.length := by rw [hstep, List.length_append, ← ht.out, hn]
      have htn : t + n ≤ 1000000000 := by omega
      have htn0 : ¬ ((t : Int) + (n : Int)) < 0 := by omega
      have hk2 : (k : Int) < (m : Int) := by omega
      clear hq1 hq2 hstep hlen2 hzl
      replace hz := hidI hz
      replace hn := hidI hn
      replace ht2 := hidI ht2
      replace hk := hidI hk
      go_wp2
      go_roundg (m - (k + 1))
      case rel => exact ⟨k + 1, t + n, by have := hk.out; omega, by go_num, by go_num, ht2, hidI rfl⟩
      case measure => have := hk.out; omega
    · obtain rfl : k = m := by omega
      have hgrow := gpGrow w t htl
      have hk2 : ¬ (k : Int) < (k : Int) := by omega
      replace hk := hidI hk
      go_wp2_with fail
      refine hgrow.mono ?_
      rintro e w1 ⟨v1, rfl, hown1, hb1⟩
      replace hown1 := hidI hown1
      clear hgrow
      go_wp2
      go_loopg [6, 27] k (fun g vv i wx => ∃ j : Nat, j + g = k ∧ i = .int .i64 j ∧ Hid (OwnsE wx w.heap.size vv (ess.take j).flatten) ∧ Below w.heap.size w wx)
      case atStart => exact ⟨0, by omega, rfl, hown1, hb1⟩
      case round =>
        clear hown1 hb1
        obtain ⟨j, hj, rfl, hown, hb⟩ := hrel
        by_cases hlj : j < k
        · obtain ⟨b, off, vi, rfl, hB, hcell0, hri⟩ := hread.out.at_ j (by have := hm.out; omega)
          have hcell : wr.cell? ⟨b, off + j, none⟩ = some vi := by rw [hb.cell (p := ⟨b, off + j, none⟩) hB]; exact hcell0
          have hx := hidI (hri.below hb)
          have hstep := takeE_flat (ess := ess) (k := j) (by have := hm.out; omega)
          have hlen2 := hlen.out (j + 1)
          obtain ⟨z, hz⟩ : ∃ z, z = ess.getD j [] := ⟨_, rfl⟩
          rw [← hz] at hx hstep
          have hl3 : (ess.take j).flatten.length + z.length ≤ 1000000000 := by rw [hstep, List.length_append] at hlen2; omega
          obtain ⟨L, hL⟩ : ∃ L, L = (ess.take j).flatten := ⟨_, rfl⟩
          rw [← hL] at hown hstep hl3
          have hj2 : (j : Int) < (k : Int) := by omega
          clear hcell0 hri hlen2
          replace hstep := hidI hstep
          replace hL := hidI hL
          replace hz := hidI hz
          replace hj := hidI hj
          go_wp2_with (at_builtin; go_must (refine wpList_pushAllE rfl _ _ rfl w.heap.size _ _ L z w.heap.size rfl rfl (by exact hown.out) (by exact hx.out) hl3 hb.size ?_))
          intro v2 w2 hown2 hb2'
          have hb2 := hb.trans hb2'
          have hown3 : Hid (OwnsE w2 w.heap.size v2 (ess.take (j + 1)).flatten) := hidI (by rw [hstep.out]; exact hown2)
          clear hown2 hb2' hx hown hb
          go_wp2
          go_roundg (k - (j + 1))
          case rel => exact ⟨j + 1, by have := hj.out; omega, by go_num, hown3, hb2⟩
          case measure => have := hj.out; omega
        · obtain rfl : j = k := by omega
          have hfull : (ess.take j).flatten = ess.flatten := by rw [List.take_of_length_le (by have := hm.out; omega)]
          rw [hfull] at hown
          have hr : LwEdges w ess.flatten (.returned _) wr := lwEdges_owns hown.out hb (Nat.le_refl _) (by omega)
          have hj2 : ¬ (j : Int) < (j : Int) := by omega
          replace hr := hidI hr
          replace hj := hidI hj
          replace hfull := hidI hfull
          go_wp2
          go_ret
          exact hr.out
/-- The first p of the edges; the others. -/
theorem ReadE.first {B : Nat} {w : World} {a : Option Addr} {n cap : Nat} {es : List Ed} (h : ReadE B w (.slice a n cap) es) {p : Nat} (hp : p ≤ es.length) : ReadE B w (.slice a p cap) (es.take p) := by
  obtain ⟨hz, hl, a', cap', hv, ⟨hnil, hc⟩, hr⟩ := h
  simp only [Value.slice.injEq] at hv
  obtain ⟨rfl, _, rfl⟩ := hv
  have hlen : (es.take p).length = p := by rw [List.length_take]; omega
  refine ⟨flatE_length _, by omega, a, cap, by rw [hlen], ⟨hnil, by omega⟩, ?_⟩
  rcases hr with h0 | ⟨b, off, ha, hB, hcell⟩
  · left; omega
  · right
    refine ⟨b, off, ha, hB, fun k hk => ?_⟩
    rw [hlen] at hk
    rw [hcell k (by omega)]
    have hap : flatE es = flatE (es.take p) ++ flatE (es.drop p) := by rw [← flatE_append, List.take_append_drop]
    have hfl := flatE_length (es.take p)
    rw [hap, List.getD_eq_getElem?_getD, List.getD_eq_getElem?_getD, List.getElem?_append_left (by omega)]
theorem ReadE.others {B b off : Nat} {w : World} {n cap : Nat} {es : List Ed} (h : ReadE B w (.slice (some ⟨b, off, none⟩) n cap) es) {p : Nat} (hp : p ≤ es.length) : ReadE B w (.slice (some ⟨b, off + p * 3, none⟩) (n - p) (cap - p)) (es.drop p) := by
  obtain ⟨hz, hl, a', cap', hv, ⟨hnil, hc⟩, hr⟩ := h
  simp only [Value.slice.injEq] at hv
  obtain ⟨rfl, rfl, rfl⟩ := hv
  have hlen : (es.drop p).length = es.length - p := by rw [List.length_drop]
  refine ⟨flatE_length _, by omega, _, cap - p, by rw [hlen], ⟨(fun h => by cases h), by omega⟩, ?_⟩
  rcases hr with h0 | ⟨b', off', ha, hB, hcell⟩
  · left; omega
  · right
    cases ha
    refine ⟨b, off + p * 3, rfl, hB, fun k hk => ?_⟩
    rw [hlen] at hk
    have h1 : off + p * 3 + k = off + (p * 3 + k) := by omega
    rw [h1, hcell (p * 3 + k) (by omega)]
    have hap : flatE es = flatE (es.take p) ++ flatE (es.drop p) := by rw [← flatE_append, List.take_append_drop]
    have hfl := flatE_length (es.take p)
    have htl : (es.take p).length = p := by rw [List.length_take]; omega
    rw [hap, List.getD_eq_getElem?_getD, List.getD_eq_getElem?_getD, List.getElem?_append_right (by omega)]
    rw [show p * 3 + k - (flatE (es.take p)).length = k by omega]
end Go.Proofs.Ytkmhncbakfnfeaa
