/- Slices of Fold: toFoldS. (tools/flat.py) -/
import Derived.Test.YtdeofaimgldklaaHFA
import Derived.Test.YtdeofaimgldklaaGB
namespace Go.Proofs.Ytdeofaimgldklaa
open Go.RowKit
set_option linter.unusedVariables false
set_option linter.unusedSimpArgs false

theorem made_F (n : Nat) : (madeCells #[.int .i64 0, .int .i64 0] (n * 2)).toList = (List.replicate (n * 2) (0 : Int)).map iv := by
  unfold madeCells
  apply List.ext_getElem?
  intro i
  simp only [Array.toList_map, Array.toList_range, List.getElem?_map, List.map_replicate]
  by_cases h : i < n * 2
  · have h3 : i % 2 < 2 := Nat.mod_lt _ (by omega)
    rw [List.getElem?_range h, List.getElem?_replicate, if_pos h]
    have e : i % 2 = 0 ∨ i % 2 = 1 := by omega
    rcases e with e | e <;> simp [e, iv]
  · rw [List.getElem?_eq_none (by simpa using h), List.getElem?_eq_none (by simpa using h)]
    rfl
/-- What a function that hands back a slice of Fold leaves. -/
def FsRet (w : World) (n : Nat) (zs : List Int) (e : Ending) (w' : World) : Prop :=
  ∃ v, e = .returned v ∧ RowS 27 2 w' w.heap.size w'.heap.size v n zs ∧ Below w.heap.size w w'
set_option maxHeartbeats 1600000 in
theorem toFoldS_any (w : World) (v : Value) (n : Nat) (zs : List Int) (h : ReadS 2 w.heap.size w v n zs) (hl : n ≤ 1000000000) :
    Calls Try.prog 29 #[v] w (FsRet w n zs) := by
  obtain ⟨a, cap, rfl, hnc⟩ := h.form
  obtain ⟨i0, hi, hz0, hz1, hz2⟩ := info_parts infoFold
  have hzl := h.1
  replace h := hidI h
  go_enter Try.func29, Try.ntmps29
  go_wp2_with (at_make; go_must (refine wpList_make_full _ rfl _ _ 45 rfl w.heap.size 27 i0 (.agg #[.int .i64 0, .int .i64 0]) 2 Try.underlying45 hi hz0 hz1 .i64 .i64 _ _ n rfl rfl rfl rfl ?c1 ?c2 ?c3 ?_))
  case c1 => rw [hz2]; omega
  case c2 => unfold maxLen; omega
  case c3 => exact Nat.le_refl _
  intro w1 hown hg
  rw [made_F] at hown
  have hb := (Below.refl w.heap.size w).grown hg (Nat.le_refl _) (by intro k hk; cases hk)
  clear hg hi hz0 hz1 hz2
  replace hown := hidI hown
  go_wp2
  go_loopg [4] n (fun g i wr => ∃ k : Nat, k + g = n ∧ i = .int .i64 k ∧ Hid (OwnsS 27 2 wr w.heap.size (.slice (some ⟨w.heap.size, 0, none⟩) n n) n (padS zs (k * 2))) ∧ Below w.heap.size w wr)
  case atStart => exact ⟨0, by omega, rfl, by rw [Nat.zero_mul, padS_zero, hzl]; exact hown, hb⟩
  case round =>
    clear hown hb
    obtain ⟨k, hk, rfl, hown, hb⟩ := hrel
    by_cases hlt : k < n
    · obtain ⟨b, off, rfl, hB, hc⟩ := (h.out.below hb).at_ k hlt
      have hc0 := hc 0 (by omega)
      have hc1 := hc 1 (by omega)
      rw [Nat.add_zero] at hc0
      rw [Nat.add_zero] at hc0
      obtain ⟨x0, hx0⟩ : ∃ z, z = zs.getD (k * 2) 0 := ⟨_, rfl⟩
      obtain ⟨x1, hx1⟩ : ∃ z, z = zs.getD (k * 2 + 1) 0 := ⟨_, rfl⟩
      rw [← hx0] at hc0
      rw [← hx1] at hc1
      have hlt2 : (k : Int) < (n : Int) := by omega
      replace hx0 := hidI hx0
      replace hx1 := hidI hx1
      replace hk := hidI hk
      clear hc
      have hcall := toFold_any wr x0 x1
      go_wp2_with fail
      refine hcall.mono ?_
      rintro e w2 ⟨rfl, hb2'⟩
      have hb2 := hb.trans (hb2'.mono hb.size)
      have hown2 := hown.out.later hb2' (Nat.le_refl _)
      obtain ⟨z0, hz0⟩ := hown2.cell (k * 2) (by omega)
      obtain ⟨z1, hz1⟩ := hown2.cell (k * 2 + 1) (by omega)
      have hf0 := hown2.frozen (k * 2)
      have hf1 := hown2.frozen (k * 2 + 1)
      have hst := ((hown2.put (k * 2) x0).put (k * 2 + 1) x1)
      rw [hx0.out, padS_step zs (k * 2) (by omega), hx1.out, padS_step zs (k * 2 + 1) (by omega), ← hx0.out, ← hx1.out, show k * 2 + 1 + 1 = (k + 1) * 2 by omega] at hst
      have hb3 := ((hb2.setCell (p := ⟨w.heap.size, k * 2, none⟩) (Nat.le_refl _) (.int .i64 x0)).setCell (p := ⟨w.heap.size, k * 2 + 1, none⟩) (Nat.le_refl _) (.int .i64 x1))
      replace hst := hidI hst
      replace hown2 := hidI hown2
      replace hb3 := hidI hb3
      clear hcall hown hb hb2 hb2' hc0 hc1
      go_wp2
      go_roundg (n - (k + 1))
      case rel => exact ⟨k + 1, by have := hk.out; omega, by go_num, hst, hb3.out⟩
      case measure => have := hk.out; omega
    · obtain rfl : k = n := by omega
      have hfull : padS zs (k * 2) = zs := by rw [← hzl]; exact padS_full zs
      rw [hfull] at hown
      have hr : FsRet w k zs (.returned (.slice (some ⟨w.heap.size, 0, none⟩) k k)) wr := ⟨_, rfl, OwnsS.row hown.out (by omega), hb⟩
      have hlt2 : ¬ (k : Int) < (k : Int) := by omega
      replace hr := hidI hr
      replace hfull := hidI hfull
      replace hk := hidI hk
      go_wp2
      go_ret
      exact hr.out
end Go.Proofs.Ytdeofaimgldklaa
