/- slices.Concat and areInverse by themselves (out of WE, WP1, WP2, WC: for seats whose claims would hold too many texts). -/
import Derived.Test.YtmecdboeckmmfaaWS1
import Derived.Test.YtmecdboeckmmfaaSI
import Derived.Test.YtmecdboeckmmfaaAI
import Derived.Test.YtmecdboeckmmfaaMX
import Derived.Lib.AppendZeros
import Derived.Lib.SliceRun
import Derived.Deep.RegionWith
import Derived.Deep.LoopGhost
namespace Go.Proofs.Ytmecdboeckmmfaa
open Go.RowKit
set_option linter.unusedVariables false
set_option linter.unusedSimpArgs false

/-- v can be read as the lists of ints zss; all lies below block B. -/
def ReadLL (B : Nat) (w : World) (v : Value) (zss : List (List Int)) : Prop :=
  zss.length ≤ 140737488355328 ∧ ∃ a cap, v = .slice a zss.length cap ∧ (zss = [] ∨ ∃ b off, a = some ⟨b, off, none⟩ ∧ b < B ∧ ∀ i, i < zss.length → ∃ vi, w.cell? ⟨b, off + i, none⟩ = some vi ∧ ReadI B w vi (zss.getD i []))
theorem ReadLL.below {B : Nat} {w w' : World} {v : Value} {zss : List (List Int)} (h : ReadLL B w v zss) (hb : Below B w w') : ReadLL B w' v zss := by
  obtain ⟨hl, a, cap, hv, hc⟩ := h
  refine ⟨hl, a, cap, hv, hc.imp id ?_⟩
  rintro ⟨b, off, ha, hB, hcell⟩
  refine ⟨b, off, ha, hB, fun i hi => ?_⟩
  obtain ⟨vi, h1, h2⟩ := hcell i hi
  exact ⟨vi, by rw [hb.cell (p := ⟨b, off + i, none⟩) hB]; exact h1, h2.below hb⟩
theorem ReadLL.at_ {B : Nat} {w : World} {a : Option Addr} {n cap : Nat} {zss : List (List Int)} (h : ReadLL B w (.slice a n cap) zss) (i : Nat) (hi : i < zss.length) :
    ∃ b off vi, a = some ⟨b, off, none⟩ ∧ b < B ∧ w.cell? ⟨b, off + i, none⟩ = some vi ∧ ReadI B w vi (zss.getD i []) := by
  obtain ⟨_, a', cap', hv, hr⟩ := h
  simp only [Value.slice.injEq] at hv
  obtain ⟨rfl, _, rfl⟩ := hv
  rcases hr with h0 | ⟨b, off, ha, hB, hc⟩
  · rw [h0] at hi; simp at hi
  · obtain ⟨vi, h1, h2⟩ := hc i hi
    exact ⟨b, off, vi, ha, hB, h1, h2⟩
theorem getD_lists {zss : List (List Int)} {i : Nat} (h : i < zss.length) : zss.getD i [] = zss[i] := by rw [List.getD_eq_getElem?_getD, List.getElem?_eq_getElem h]; rfl
theorem take_flat {zss : List (List Int)} {k : Nat} (h : k < zss.length) : (zss.take (k + 1)).flatten = (zss.take k).flatten ++ zss.getD k [] := by
  rw [List.take_succ_eq_append_getElem h, List.flatten_append, getD_lists h]; simp
theorem take_flat_le (zss : List (List Int)) (k : Nat) : (zss.take k).flatten.length ≤ zss.flatten.length := by
  have : zss.flatten = (zss.take k).flatten ++ (zss.drop k).flatten := by rw [← List.flatten_append, List.take_append_drop]
  rw [this, List.length_append]; omega
theorem grow_own (w : World) (n cap : Nat) (C : Array Value) (hc : cap ≤ maxLen) (hC : C.size = cap) :
    OwnRet w [] (.returned (.slice (some ⟨w.heap.size, 0, none⟩) 0 cap)) (w.drew.alloc (.cells C 3)) := by
  refine ⟨_, rfl, World.ownsRow_made w.drew C cap (Nat.le_refl _) hc (by omega), ?_⟩
  exact (below_dN (Below.refl _ _) 1).alloc (Nat.le_refl _) _
set_option maxHeartbeats 800000 in
theorem grow_nil (w : World) (n : Nat) (hl : n ≤ 1000000000) :
    Calls Try.prog 103 #[.slice none 0 0, .int .i64 n] w (OwnRet w []) := by
  obtain ⟨i0, hi, hz0, hz1, hz2⟩ := info_parts infoInt
  rcases Nat.eq_zero_or_pos n with h0 | h0
  · subst h0
    have hr : OwnRet w [] (.returned (.slice none 0 0)) w := ⟨_, rfl, World.ownsRow_nil _ _ _ _, Below.refl _ _⟩
    replace hr := hidI hr
    clear hi hz0 hz1 hz2
    go_enter Try.func103, Try.ntmps103
    go_wp2
    go_ret
    exact hr.out
  · have hap : ∀ (W : World) (ty : TypeId), ∃ cap C, cap ≤ maxLen ∧ C.size = cap ∧ (Builtin.append_ #[39, 3] ty #[.slice none 0 0, .int .i64 n]).run Try.prog W = .ok (.slice (some ⟨W.heap.size, 0, none⟩) n cap) (W.drew.alloc (.cells C 3)) := by
      intro W ty
      refine ⟨_, _, grownCap_le_maxLen W n 0 3 (by unfold maxLen; omega), ?_, Lib.run_append_nil_zeros W _ _ ty _ i0 (.int .i64 0) .i64 .i64 Try.underlying39 Try.underlying3 hi hz0 n h0 (by omega) (by omega) (by rw [hz2]; omega)⟩
      have := grownCap_ge W n 0 3
      simp [Builtin.zeroCells, Value.cells]
      omega
    have hp : (0 : Int) < (n : Int) := by omega
    have hng : ¬ (n : Int) < 0 := by omega
    clear hi hz0 hz1 hz2
    go_enter Try.func103, Try.ntmps103
    obtain ⟨cap, C, hc, hC, hrun⟩ := hap w 39
    have hr := hidI (grow_own w n cap C hc hC)
    replace hrun := hidI hrun
    replace hap := hidI hap
    go_wp2_with (at_builtin; go_must (refine Lib.wpList_append_run _ rfl _ _ _ _ rfl _ _ rfl rfl _ _ hrun.out ?_))
    go_wp2
    go_ret
    exact hr.out
set_option maxHeartbeats 1600000 in
theorem concat_any (w : World) (v : Value) (zss : List (List Int)) (h : ReadLL w.heap.size w v zss) (hl : zss.flatten.length ≤ 1000000000) :
    Calls Try.prog 83 #[v] w (IntsRet w zss.flatten) := by
  have hread := h
  obtain ⟨hml, a, cap, rfl, hq⟩ := h
  clear hq
  obtain ⟨m, hm⟩ : ∃ m, m = zss.length := ⟨_, rfl⟩
  rw [← hm] at hml hread ⊢
  have hlen := hidI (take_flat_le zss)
  replace hm := hidI hm
  replace hread := hidI hread
  go_enter Try.func83, Try.ntmps83
  go_wp2
  go_loopg [3, 11] m (fun g s i wr => ∃ k t : Nat, k + g = m ∧ i = .int .i64 k ∧ s = .int .i64 t ∧ Hid (t = (zss.take k).flatten.length) ∧ Hid (wr = w))
  case atStart => exact ⟨0, 0, by omega, rfl, rfl, hidI rfl, hidI rfl⟩
  case round =>
    obtain ⟨k, t, hk, rfl, rfl, ht, hwr⟩ := hrel
    have hwr' := hwr.out.symm
    subst hwr'
    have htl : t ≤ 1000000000 := by have := ht.out; have := hlen.out k; omega
    by_cases hlt : k < m
    · obtain ⟨b, off, vi, rfl, hB, hcell, hri⟩ := hread.out.at_ k (by have := hm.out; omega)
      have hstep := take_flat (zss := zss) (k := k) (by have := hm.out; omega)
      have hlen2 := hlen.out (k + 1)
      obtain ⟨z, hz⟩ : ∃ z, z = zss.getD k [] := ⟨_, rfl⟩
      rw [← hz] at hri hstep
      obtain ⟨hzl, a2, cap2, rfl, hq1, hq2⟩ := hri
      obtain ⟨n, hn⟩ : ∃ n, n = z.length := ⟨_, rfl⟩
      rw [← hn] at hcell
      have ht2 : t + n = (zss.take (k + 1)).flatten.length := by rw [hstep, List.length_append, ← ht.out, hn]
      have htn : t + n ≤ 1000000000 := by omega
      have htn0 : ¬ ((t : Int) + (n : Int)) < 0 := by omega
      have hk2 : (k : Int) < (m : Int) := by omega
      clear hq1 hq2 hstep hlen2 hzl
      replace hz := hidI hz
      replace hn := hidI hn
      replace ht2 := hidI ht2
      replace hk := hidI hk
      go_wp2
      go_roundg (m - (k + 1))
      case rel => exact ⟨k + 1, t + n, by have := hk.out; omega, by go_num, by go_num, ht2, hidI rfl⟩
      case measure => have := hk.out; omega
    · obtain rfl : k = m := by omega
      have hgrow := grow_nil w t htl
      have hk2 : ¬ (k : Int) < (k : Int) := by omega
      replace hk := hidI hk
      go_wp2_with fail
      refine hgrow.mono ?_
      rintro e w1 ⟨v1, rfl, hown1, hb1⟩
      replace hown1 := hidI hown1
      clear hgrow
      go_wp2
      go_loopg [6, 27] k (fun g vv i wx => ∃ j : Nat, j + g = k ∧ i = .int .i64 j ∧ Hid (OwnsI wx w.heap.size vv (zss.take j).flatten) ∧ Below w.heap.size w wx)
      case atStart => exact ⟨0, by omega, rfl, hown1, hb1⟩
      case round =>
        clear hown1 hb1
        obtain ⟨j, hj, rfl, hown, hb⟩ := hrel
        by_cases hlj : j < k
        · obtain ⟨b, off, vi, rfl, hB, hcell0, hri⟩ := hread.out.at_ j (by have := hm.out; omega)
          have hcell : wr.cell? ⟨b, off + j, none⟩ = some vi := by rw [hb.cell (p := ⟨b, off + j, none⟩) hB]; exact hcell0
          have hx := hidI (hri.below hb)
          have hstep := take_flat (zss := zss) (k := j) (by have := hm.out; omega)
          have hlen2 := hlen.out (j + 1)
          obtain ⟨z, hz⟩ : ∃ z, z = zss.getD j [] := ⟨_, rfl⟩
          rw [← hz] at hx hstep
          have hl3 : (zss.take j).flatten.length + z.length ≤ 1000000000 := by rw [hstep, List.length_append] at hlen2; omega
          obtain ⟨L, hL⟩ : ∃ L, L = (zss.take j).flatten := ⟨_, rfl⟩
          rw [← hL] at hown hstep hl3
          have hj2 : (j : Int) < (k : Int) := by omega
          clear hcell0 hri hlen2
          replace hstep := hidI hstep
          replace hL := hidI hL
          replace hz := hidI hz
          replace hj := hidI hj
          go_wp2_with (at_builtin; go_must (refine wpList_pushAllI rfl _ _ rfl w.heap.size _ _ L z w.heap.size rfl rfl (by exact hown.out) (by exact hx.out) hl3 hb.size ?_))
          intro v2 w2 hown2 hb2'
          have hb2 := hb.trans hb2'
          have hown3 : Hid (OwnsI w2 w.heap.size v2 (zss.take (j + 1)).flatten) := hidI (by rw [hstep.out]; exact hown2)
          clear hown2 hb2' hx hown hb
          go_wp2
          go_roundg (k - (j + 1))
          case rel => exact ⟨j + 1, by have := hj.out; omega, by go_num, hown3, hb2⟩
          case measure => have := hj.out; omega
        · obtain rfl : j = k := by omega
          have hfull : (zss.take j).flatten = zss.flatten := by rw [List.take_of_length_le (by have := hm.out; omega)]
          rw [hfull] at hown
          have hr : IntsRet w zss.flatten (.returned _) wr := intsRet_owns hown.out hb (Nat.le_refl _) (by omega)
          have hj2 : ¬ (j : Int) < (j : Int) := by omega
          replace hr := hidI hr
          replace hj := hidI hj
          replace hfull := hidI hfull
          go_wp2
          go_ret
          exact hr.out
end Go.Proofs.Ytmecdboeckmmfaa
