/- Cyclic words, the program: slices.Clone, slices.Grow of nil, slices.Concat, remainderOf, RotateWord. -/
import Derived.Test.YtcjkgknmpgehbaaWE
import Derived.Test.YtcjkgknmpgehbaaWF
import Derived.Test.YtcjkgknmpgehbaaWY4
import Derived.Lib.AppendZeros
import Derived.Lib.SliceRun
import Derived.Deep.RegionWith
import Derived.Deep.LoopGhost
namespace Go.Proofs.Ytcjkgknmpgehbaa
open Go.RowKit
set_option linter.unusedVariables false

set_option maxHeartbeats 800000 in
theorem clone_any (w : World) (v : Value) (zs : List Int) (h : ReadI w.heap.size w v zs) (hl : zs.length ≤ 1000000000) :
    Calls Try.prog 53 #[v] w (IntsRet w zs) := by
  have hread := h
  obtain ⟨_, a, cap, rfl, ⟨hnil, _⟩, hr⟩ := h
  obtain ⟨n, hn⟩ : ∃ n, n = zs.length := ⟨_, rfl⟩
  rw [← hn] at hl hread ⊢
  rcases a with _ | ad
  · have hz : zs = [] := by
      rcases hr with h0 | ⟨b, off, ha, _⟩
      · exact h0
      · cases ha
    have hc0 := hnil rfl
    subst hc0
    have hn0 : n = 0 := by rw [hn, hz]; rfl
    subst hn0
    have hr : IntsRet w zs (.returned (.slice none 0 0)) w := ⟨_, rfl, ⟨by rw [hz]; simp, .inl ⟨rfl, hz⟩⟩, Below.refl _ _⟩
    replace hr := hidI hr
    have heq := fun W : World => Lib.run_eql_slice_nil (P := Try.prog) W 24 3 none 0 0 0 0 Try.underlying24
    clear hread hn hz hnil
    go_enter Try.func53, Try.ntmps53
    go_wp2
    go_ret
    exact hr.out
  · have hlit := hidI (OwnsI.lit w)
    have hb0 := (Below.refl w.heap.size w).alloc (Nat.le_refl _) (.cells #[] 3)
    have hx := hidI (hread.below hb0)
    have hl3 : ([] : List Int).length + zs.length ≤ 1000000000 := by simp; omega
    replace hn := hidI hn
    replace hread := hidI hread
    clear hr hnil
    have heq := fun W : World => Lib.run_eql_slice_nil (P := Try.prog) W 24 3 (some ad) n cap 0 0 Try.underlying24
    go_enter Try.func53, Try.ntmps53
    go_wp2_with (at_builtin; go_must (refine wpList_pushAllI rfl _ _ rfl w.heap.size _ _ [] zs w.heap.size rfl rfl (by exact hlit.out) (by exact hx.out) hl3 (by simp) ?_))
    intro v1 w1 hown1 hb1'
    have hb1 := hb0.trans hb1'
    have hr : IntsRet w zs (.returned v1) w1 := intsRet_owns (by simpa using hown1) hb1 (Nat.le_refl _) (by have := hn.out; omega)
    replace hr := hidI hr
    clear hown1 hb1' hlit hx hb0 hb1
    go_wp2
    go_ret
    exact hr.out
/-- What Grow of nil leaves: an empty slice of the call's own. -/
theorem grow_own (w : World) (n cap : Nat) (C : Array Value) (hc : cap ≤ maxLen) (hC : C.size = cap) :
    OwnRet w [] (.returned (.slice (some ⟨w.heap.size, 0, none⟩) 0 cap)) (w.drew.alloc (.cells C 3)) := by
  refine ⟨_, rfl, World.ownsRow_made w.drew C cap (Nat.le_refl _) hc (by omega), ?_⟩
  exact (below_dN (Below.refl _ _) 1).alloc (Nat.le_refl _) _
set_option maxHeartbeats 800000 in
theorem grow_nil (w : World) (n : Nat) (hl : n ≤ 1000000000) :
    Calls Try.prog 76 #[.slice none 0 0, .int .i64 n] w (OwnRet w []) := by
  obtain ⟨i0, hi, hz0, hz1, hz2⟩ := info_parts infoInt
  rcases Nat.eq_zero_or_pos n with h0 | h0
  · subst h0
    have hr : OwnRet w [] (.returned (.slice none 0 0)) w := ⟨_, rfl, World.ownsRow_nil _ _ _ _, Below.refl _ _⟩
    replace hr := hidI hr
    clear hi hz0 hz1 hz2
    go_enter Try.func76, Try.ntmps76
    go_wp2
    go_ret
    exact hr.out
  · have hap : ∀ (W : World) (ty : TypeId), ∃ cap C, cap ≤ maxLen ∧ C.size = cap ∧ (Builtin.append_ #[24, 3] ty #[.slice none 0 0, .int .i64 n]).run Try.prog W = .ok (.slice (some ⟨W.heap.size, 0, none⟩) n cap) (W.drew.alloc (.cells C 3)) := by
      intro W ty
      refine ⟨_, _, grownCap_le_maxLen W n 0 3 (by unfold maxLen; omega), ?_, Lib.run_append_nil_zeros W _ _ ty _ i0 (.int .i64 0) .i64 .i64 Try.underlying24 Try.underlying3 hi hz0 n h0 (by omega) (by omega) (by rw [hz2]; omega)⟩
      have := grownCap_ge W n 0 3
      simp [Builtin.zeroCells, Value.cells]
      omega
    have hp : (0 : Int) < (n : Int) := by omega
    have hng : ¬ (n : Int) < 0 := by omega
    clear hi hz0 hz1 hz2
    go_enter Try.func76, Try.ntmps76
    obtain ⟨cap, C, hc, hC, hrun⟩ := hap w 24
    have hr := hidI (grow_own w n cap C hc hC)
    replace hrun := hidI hrun
    replace hap := hidI hap
    go_wp2_with (at_builtin; go_must (refine Lib.wpList_append_run _ rfl _ _ _ _ rfl _ _ rfl rfl _ _ hrun.out ?_))
    go_wp2
    go_ret
    exact hr.out
end Go.Proofs.Ytcjkgknmpgehbaa
