/- The laws' own helpers on slices of edges: toEdgeS, eqEdgeS. -/
import Derived.Test.YtdeofaimgldklaaGA
namespace Go.Proofs.Ytdeofaimgldklaa
open Go.RowKit
set_option linter.unusedVariables false

theorem made_edges (n : Nat) : (madeCells #[.int .i64 0, .int .i64 0, .int .i64 0] (n * 3)).toList = (List.replicate (n * 3) (0 : Int)).map iv := by
  unfold madeCells
  apply List.ext_getElem?
  intro i
  simp only [Array.toList_map, Array.toList_range, List.getElem?_map, List.map_replicate]
  by_cases h : i < n * 3
  · have h3 : i % 3 < 3 := Nat.mod_lt _ (by omega)
    rw [List.getElem?_range h, List.getElem?_replicate, if_pos h]
    have e : i % 3 = 0 ∨ i % 3 = 1 ∨ i % 3 = 2 := by omega
    rcases e with e | e | e <;> simp [e, iv]
  · rw [List.getElem?_eq_none (by simpa using h), List.getElem?_eq_none (by simpa using h)]
    rfl
/-- The copy, after m cells. -/
def padS (zs : List Int) (m : Nat) : List Int := zs.take m ++ List.replicate (zs.length - m) 0
theorem padS_length (zs : List Int) (m : Nat) (h : m ≤ zs.length) : (padS zs m).length = zs.length := by simp [padS]; omega
theorem padS_zero (zs : List Int) : padS zs 0 = List.replicate zs.length 0 := by simp [padS]
theorem padS_full (zs : List Int) : padS zs zs.length = zs := by simp [padS]
theorem padS_step (zs : List Int) (k : Nat) (h : k < zs.length) : (padS zs k).set k (zs.getD k 0) = padS zs (k + 1) := padI_step zs k h
/-- What a function that hands back a slice of edges leaves. -/
def EdgesRet (w : World) (n : Nat) (zs : List Int) (e : Ending) (w' : World) : Prop :=
  ∃ v, e = .returned v ∧ RowS 68 3 w' w.heap.size w'.heap.size v n zs ∧ Below w.heap.size w w'
set_option maxHeartbeats 1600000 in
theorem toEdgeS_any (w : World) (v : Value) (n : Nat) (zs : List Int) (h : ReadS 3 w.heap.size w v n zs) (hl : n ≤ 1000000000) :
    Calls Try.prog 39 #[v] w (EdgesRet w n zs) := by
  obtain ⟨a, cap, rfl, hnc⟩ := h.form
  obtain ⟨i0, hi, hz0, hz1, hz2⟩ := info_parts infoEdge
  have hzl := h.1
  replace h := hidI h
  go_enter Try.func39, Try.ntmps39
  go_wp2_with (at_make; go_must (refine wpList_make_full _ rfl _ _ 30 rfl w.heap.size 68 i0 (.agg #[.int .i64 0, .int .i64 0, .int .i64 0]) 3 Try.underlying30 hi hz0 hz1 .i64 .i64 _ _ n rfl rfl rfl rfl ?c1 ?c2 ?c3 ?_))
  case c1 => rw [hz2]; omega
  case c2 => unfold maxLen; omega
  case c3 => exact Nat.le_refl _
  intro w1 hown hg
  rw [made_edges] at hown
  have hb := (Below.refl w.heap.size w).grown hg (Nat.le_refl _) (by intro k hk; cases hk)
  clear hg hi hz0 hz1 hz2
  replace hown := hidI hown
  go_wp2
  go_loopg [4] n (fun g i wr => ∃ k : Nat, k + g = n ∧ i = .int .i64 k ∧ Hid (OwnsS 68 3 wr w.heap.size (.slice (some ⟨w.heap.size, 0, none⟩) n n) n (padS zs (k * 3))) ∧ Below w.heap.size w wr)
  case atStart => exact ⟨0, by omega, rfl, by rw [Nat.zero_mul, padS_zero, hzl]; exact hown, hb⟩
  case round =>
    clear hown hb
    obtain ⟨k, hk, rfl, hown, hb⟩ := hrel
    by_cases hlt : k < n
    · obtain ⟨b, off, rfl, hB, hc⟩ := (h.out.below hb).at_ k hlt
      have hc0 := hc 0 (by omega)
      have hc1 := hc 1 (by omega)
      have hc2 := hc 2 (by omega)
      rw [Nat.add_zero] at hc0
      rw [Nat.add_zero] at hc0
      obtain ⟨f, hf⟩ : ∃ z, z = zs.getD (k * 3) 0 := ⟨_, rfl⟩
      obtain ⟨l, hll⟩ : ∃ z, z = zs.getD (k * 3 + 1) 0 := ⟨_, rfl⟩
      obtain ⟨t, ht⟩ : ∃ z, z = zs.getD (k * 3 + 2) 0 := ⟨_, rfl⟩
      rw [← hf] at hc0
      rw [← hll] at hc1
      rw [← ht] at hc2
      have hlt2 : (k : Int) < (n : Int) := by omega
      replace hf := hidI hf
      replace hll := hidI hll
      replace ht := hidI ht
      replace hk := hidI hk
      clear hc
      have hcall := toEdge_any wr f l t
      go_wp2_with fail
      refine hcall.mono ?_
      rintro e w2 ⟨rfl, hb2'⟩
      have hb2 := hb.trans (hb2'.mono hb.size)
      have hown2 := hown.out.later hb2' (Nat.le_refl _)
      obtain ⟨x0, hx0⟩ := hown2.cell (k * 3) (by omega)
      obtain ⟨x1, hx1⟩ := hown2.cell (k * 3 + 1) (by omega)
      obtain ⟨x2, hx2⟩ := hown2.cell (k * 3 + 2) (by omega)
      have hf0 := hown2.frozen (k * 3)
      have hf1 := hown2.frozen (k * 3 + 1)
      have hf2 := hown2.frozen (k * 3 + 2)
      have hst := ((hown2.put (k * 3) f).put (k * 3 + 1) l).put (k * 3 + 2) t
      rw [hf.out, padS_step zs (k * 3) (by omega), hll.out, padS_step zs (k * 3 + 1) (by omega), ht.out, padS_step zs (k * 3 + 1 + 1) (by omega), ← hf.out, ← hll.out, ← ht.out, show k * 3 + 1 + 1 + 1 = (k + 1) * 3 by omega] at hst
      have hb3 := ((hb2.setCell (p := ⟨w.heap.size, k * 3, none⟩) (Nat.le_refl _) (.int .i64 f)).setCell (p := ⟨w.heap.size, k * 3 + 1, none⟩) (Nat.le_refl _) (.int .i64 l)).setCell (p := ⟨w.heap.size, k * 3 + 2, none⟩) (Nat.le_refl _) (.int .i64 t)
      replace hst := hidI hst
      replace hown2 := hidI hown2
      replace hb3 := hidI hb3
      clear hcall hown hb hb2 hb2' hc0 hc1 hc2
      go_wp2
      go_roundg (n - (k + 1))
      case rel => exact ⟨k + 1, by have := hk.out; omega, by go_num, hst, hb3.out⟩
      case measure => have := hk.out; omega
    · obtain rfl : k = n := by omega
      have hfull : padS zs (k * 3) = zs := by rw [← hzl]; exact padS_full zs
      rw [hfull] at hown
      have hr : EdgesRet w k zs (.returned (.slice (some ⟨w.heap.size, 0, none⟩) k k)) wr := ⟨_, rfl, OwnsS.row hown.out (by omega), hb⟩
      have hlt2 : ¬ (k : Int) < (k : Int) := by omega
      replace hr := hidI hr
      replace hfull := hidI hfull
      replace hk := hidI hk
      go_wp2
      go_ret
      exact hr.out
end Go.Proofs.Ytdeofaimgldklaa
