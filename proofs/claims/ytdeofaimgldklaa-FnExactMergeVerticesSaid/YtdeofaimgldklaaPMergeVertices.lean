/- For every graph and fold, laws.FnExactMergeVertices returns true and leaves its arguments as they are: the program's graph, and whether it is another one, are the model's, in memory of its own. Conditions: none beyond the row's. -/
import Derived.Test.YtdeofaimgldklaaLW3
import Derived.Test.YtdeofaimgldklaaHMS
import Derived.Test.YtdeofaimgldklaaHX
import Derived.Test.YtdeofaimgldklaaJK
import Derived.Test.YtdeofaimgldklaaBXR
import Derived.WalkKit
import Derived.ProofKit
import Derived.OpenShut
import Derived.ShutString
import Derived.Below
namespace Go.Proofs.Ytdeofaimgldklaa.fnExactMergeVertices
open Go.ChangeShapes Go.WideShapes Go.ChangeAt Go.RowKit
open Go.ChangeMaps (open_string shut_string)
set_option linter.unusedVariables false

theorem own : ownKnob Try.prog.godebug = none := by kernel_rfl

theorem laidOut : laidOutB Try.prog = true := by kernel_rfl
theorem walk0_big0 (w : World) (r0 s0 : Int) (a0 : Option Addr) (len0 cap0 : Nat) (fk1 fd1 : Int) (m0 : (len0 : Int) ≤ 9223372036854775807) (hbig : 1048576 < len0) :
    Calls Try.prog 4 #[.agg #[.int .i64 r0, .int .i64 s0, .slice a0 len0 cap0], .agg #[.int .i64 fk1, .int .i64 fd1]] w fun e w' => e = .returned (.bool true) ∧ Below w.heap.size w w' := by
  have hb0 := Below.refl w.heap.size w
  obtain ⟨b0, hx0⟩ : ∃ z, z = w.alloc (.cells #[.int .i64 r0, .int .i64 s0, .slice a0 len0 cap0] 24) := ⟨_, rfl⟩
  have hy0 : Below w.heap.size w b0 := by rw [hx0]; exact hb0.alloc hb0.size _
  have hnb0 : b0.heap[w.heap.size]? = some (.cells #[.int .i64 r0, .int .i64 s0, .slice a0 len0 cap0] 24 (0, 0)) := by rw [hx0]; exact heap_alloc_new _ _
  have hlt0 : w.heap.size < b0.heap.size := by rw [hx0]; simp
  have c00 := cell_of_heap hnb0 0
  simp at c00
  have c01 := cell_of_heap hnb0 1
  simp at c01
  have c02 := cell_of_heap hnb0 2
  simp at c02
  clear hnb0
  replace hx0 := hidI hx0
  obtain ⟨b1, hx1⟩ : ∃ z, z = b0.alloc (.cells #[.int .i64 fk1, .int .i64 fd1] 37) := ⟨_, rfl⟩
  have hy1 : Below w.heap.size w b1 := by rw [hx1]; exact hy0.alloc hy0.size _
  have hnb1 : b1.heap[b0.heap.size]? = some (.cells #[.int .i64 fk1, .int .i64 fd1] 37 (0, 0)) := by rw [hx1]; exact heap_alloc_new _ _
  have hlt1 : b0.heap.size < b1.heap.size := by rw [hx1]; simp
  replace c00 := ((show Below b0.heap.size b0 b1 by rw [hx1]; exact (Below.refl _ _).alloc (Nat.le_refl _) _).cell (p := (⟨w.heap.size, 0, none⟩ : Addr)) (show w.heap.size < b0.heap.size by omega)).trans c00
  replace c01 := ((show Below b0.heap.size b0 b1 by rw [hx1]; exact (Below.refl _ _).alloc (Nat.le_refl _) _).cell (p := (⟨w.heap.size, 1, none⟩ : Addr)) (show w.heap.size < b0.heap.size by omega)).trans c01
  replace c02 := ((show Below b0.heap.size b0 b1 by rw [hx1]; exact (Below.refl _ _).alloc (Nat.le_refl _) _).cell (p := (⟨w.heap.size, 2, none⟩ : Addr)) (show w.heap.size < b0.heap.size by omega)).trans c02
  rw [show b0.heap.size = w.heap.size + 1 by rw [hx0.out]; simp] at hnb1
  have hlu1 : w.heap.size + 1 < b1.heap.size := by have := (show b0.heap.size = w.heap.size + 1 by rw [hx0.out]; simp); omega
  have c10 := cell_of_heap hnb1 0
  simp at c10
  have c11 := cell_of_heap hnb1 1
  simp at c11
  clear hnb1
  replace hx1 := hidI hx1
  go_enter Try.func4, Try.ntmps4
  go_wp2_with fail
  rw [← hx0.out]
  rw [← hx1.out]
  refine (szGraph_any b1 r0 s0 a0 len0 cap0 1048576 m0 (by omega) (by omega)).mono ?_
  rw [if_pos (by omega)]
  rintro e w1 ⟨rfl, hbn1⟩
  have hb1 := hy1.trans (hbn1.mono hy1.size)
  have hs1 := hbn1.size
  replace c00 := (hbn1.cell (p := (⟨w.heap.size, 0, none⟩ : Addr)) (show w.heap.size < b1.heap.size by omega)).trans c00
  replace c01 := (hbn1.cell (p := (⟨w.heap.size, 1, none⟩ : Addr)) (show w.heap.size < b1.heap.size by omega)).trans c01
  replace c02 := (hbn1.cell (p := (⟨w.heap.size, 2, none⟩ : Addr)) (show w.heap.size < b1.heap.size by omega)).trans c02
  replace c10 := (hbn1.cell (p := (⟨w.heap.size + 1, 0, none⟩ : Addr)) (show w.heap.size + 1 < b1.heap.size by omega)).trans c10
  replace c11 := (hbn1.cell (p := (⟨w.heap.size + 1, 1, none⟩ : Addr)) (show w.heap.size + 1 < b1.heap.size by omega)).trans c11
  go_wp2
  go_ret
  exact ⟨rfl, hb1⟩
set_option maxRecDepth 100000 in
set_option maxHeartbeats 6400000 in
theorem walk0 (w : World) (r0 s0 : Int) (v0 : Value) (es0 : List Ed) (br0 : -9223372036854775808 ≤ r0 ∧ r0 ≤ 9223372036854775807) (bs0 : -9223372036854775808 ≤ s0 ∧ s0 ≤ 9223372036854775807) (h0 : ReadE w.heap.size w v0 es0) (i0 : InE es0) (fk1 fd1 : Int) (bk1 : -9223372036854775808 ≤ fk1 ∧ fk1 ≤ 9223372036854775807) (bd1 : -9223372036854775808 ≤ fd1 ∧ fd1 ≤ 9223372036854775807) (lg : es0.length ≤ 1048576) :
    Calls Try.prog 4 #[.agg #[.int .i64 r0, .int .i64 s0, v0], .agg #[.int .i64 fk1, .int .i64 fd1]] w fun e w' => e = .returned (.bool true) ∧ Below w.heap.size w w' := by
  obtain ⟨ad0, cap0, rfl, hnc0⟩ := h0.form
  have hr0 := hidI h0
  clear h0 hnc0
  replace i0 := hidI i0
  obtain ⟨FR0, hFR0⟩ : ∃ F : Int, F = r0 := ⟨_, rfl⟩
  obtain ⟨FS0, hFS0⟩ : ∃ F : Int, F = mrS r0 s0 es0 (fk1, fd1) := ⟨_, rfl⟩
  obtain ⟨F0, hF0⟩ : ∃ F : List Ed, F = mrE r0 s0 es0 (fk1, fd1) := ⟨_, rfl⟩
  have hfl0 : F0.length ≤ 1000000000 := by rw [hF0]; have := mrE_length r0 s0 es0 (fk1, fd1); omega
  replace hFR0 := hidI hFR0
  replace hFS0 := hidI hFS0
  replace hF0 := hidI hF0
  obtain ⟨F1, hF1⟩ : ∃ F, F = okM r0 s0 es0 (fk1, fd1) := ⟨_, rfl⟩
  have hne1 : (F1 != F1) = false := by simp
  have heq1 : (F1 == F1) = true := by simp
  replace hF1 := hidI hF1
  have hbw := Below.refl w.heap.size w
  obtain ⟨w1', hw1⟩ : ∃ z, z = w.alloc (.cells #[.int .i64 r0, .int .i64 s0, .slice ad0 es0.length cap0] 24) := ⟨_, rfl⟩
  have hbn : Below w.heap.size w w1' := by rw [hw1]; exact (Below.refl _ _).alloc (Nat.le_refl _) _
  have hlt1 : w.heap.size < w1'.heap.size := by rw [hw1]; simp
  have hnb : w1'.heap[w.heap.size]? = some (.cells #[.int .i64 r0, .int .i64 s0, .slice ad0 es0.length cap0] 24 (0, 0)) := by rw [hw1]; exact heap_alloc_new _ _
  replace hw1 := hidI hw1
  have hb1 := hbw.trans (hbn.mono hbw.size)
  have hs1 := hbn.size
  clear hbn
  have ca00 : w1'.cell? ⟨w.heap.size, 0, none⟩ = some (.int .i64 r0) := by simpa using cell_of_heap hnb 0
  have ca01 : w1'.cell? ⟨w.heap.size, 1, none⟩ = some (.int .i64 s0) := by simpa using cell_of_heap hnb 1
  have ca02 : w1'.cell? ⟨w.heap.size, 2, none⟩ = some (.slice ad0 es0.length cap0) := by simpa using cell_of_heap hnb 2
  clear hnb
  obtain ⟨w2', hw2⟩ : ∃ z, z = w1'.alloc (.cells #[.int .i64 fk1, .int .i64 fd1] 37) := ⟨_, rfl⟩
  have hbn : Below w1'.heap.size w1' w2' := by rw [hw2]; exact (Below.refl _ _).alloc (Nat.le_refl _) _
  have hlt2 : w1'.heap.size < w2'.heap.size := by rw [hw2]; simp
  have hnb : w2'.heap[w1'.heap.size]? = some (.cells #[.int .i64 fk1, .int .i64 fd1] 37 (0, 0)) := by rw [hw2]; exact heap_alloc_new _ _
  replace hw2 := hidI hw2
  have hb2 := hb1.trans (hbn.mono hb1.size)
  have hs2 := hbn.size
  replace ca00 := (hbn.cell (p := (⟨w.heap.size, 0, none⟩ : Addr)) (show w.heap.size < w1'.heap.size by omega)).trans ca00
  replace ca01 := (hbn.cell (p := (⟨w.heap.size, 1, none⟩ : Addr)) (show w.heap.size < w1'.heap.size by omega)).trans ca01
  replace ca02 := (hbn.cell (p := (⟨w.heap.size, 2, none⟩ : Addr)) (show w.heap.size < w1'.heap.size by omega)).trans ca02
  clear hbn
  rw [show w1'.heap.size = w.heap.size + 1 by rw [hw1.out]; simp] at hnb
  have ca10 : w2'.cell? ⟨w.heap.size + 1, 0, none⟩ = some (.int .i64 fk1) := by simpa using cell_of_heap hnb 0
  have ca11 : w2'.cell? ⟨w.heap.size + 1, 1, none⟩ = some (.int .i64 fd1) := by simpa using cell_of_heap hnb 1
  have hlu2 : w.heap.size + 1 < w2'.heap.size := by have := (show w1'.heap.size = w.heap.size + 1 by rw [hw1.out]; simp); omega
  clear hnb
  go_enter Try.func4, Try.ntmps4
  go_wp2_with fail
  try rw [← hw1.out]
  try rw [← hw2.out]
  refine (szGraph_any w2' r0 s0 _ es0.length cap0 1048576 (by omega) (by omega) (by omega)).mono ?_
  rw [if_neg (by omega)]
  rintro e w3' ⟨rfl, hbn⟩
  have hb3 := hb2.trans (hbn.mono hb2.size)
  have hs3 := hbn.size
  replace ca00 := (hbn.cell (p := (⟨w.heap.size, 0, none⟩ : Addr)) (show w.heap.size < w2'.heap.size by omega)).trans ca00
  replace ca01 := (hbn.cell (p := (⟨w.heap.size, 1, none⟩ : Addr)) (show w.heap.size < w2'.heap.size by omega)).trans ca01
  replace ca02 := (hbn.cell (p := (⟨w.heap.size, 2, none⟩ : Addr)) (show w.heap.size < w2'.heap.size by omega)).trans ca02
  replace ca10 := (hbn.cell (p := (⟨w.heap.size + 1, 0, none⟩ : Addr)) (show w.heap.size + 1 < w2'.heap.size by omega)).trans ca10
  replace ca11 := (hbn.cell (p := (⟨w.heap.size + 1, 1, none⟩ : Addr)) (show w.heap.size + 1 < w2'.heap.size by omega)).trans ca11
  clear hbn
  have hleft0 : ¬ 1048576 - (es0.length : Int) < 0 := by omega
  go_wp2_with fail
  have hdr := below_dn (Below.refl w3'.heap.size w3') 1
  obtain ⟨wd, hwd⟩ : ∃ z, z = w3'.drew := ⟨_, rfl⟩
  have hbwd : Below w3'.heap.size w3' wd := by rw [hwd]; exact hdr
  have hswd := hbwd.size
  have ya00 := (hbwd.cell (p := (⟨w.heap.size, 0, none⟩ : Addr)) (show w.heap.size < w3'.heap.size by omega)).trans ca00
  have ya01 := (hbwd.cell (p := (⟨w.heap.size, 1, none⟩ : Addr)) (show w.heap.size < w3'.heap.size by omega)).trans ca01
  have ya02 := (hbwd.cell (p := (⟨w.heap.size, 2, none⟩ : Addr)) (show w.heap.size < w3'.heap.size by omega)).trans ca02
  have ya10 := (hbwd.cell (p := (⟨w.heap.size + 1, 0, none⟩ : Addr)) (show w.heap.size + 1 < w3'.heap.size by omega)).trans ca10
  have ya11 := (hbwd.cell (p := (⟨w.heap.size + 1, 1, none⟩ : Addr)) (show w.heap.size + 1 < w3'.heap.size by omega)).trans ca11
  replace hwd := hidI hwd
  go_cut [6, 7] from 21 to 28 (fun b x wx => ∃ (B lo hi : Nat) (a : Option Addr) (c : Nat), b = .pointer (some ⟨B, 0, none⟩) ∧ x = .bool F1 ∧ BoxRel w3' FR0 FS0 F0 B lo hi a c wx)
  case first =>
    refine hideQ (fun _ _ d _ _ h => by cases d <;> exact h) (fun Q' hnorm hpan => ?_)
    refine wp_region_held_drew (S := (fun z => z.cell? ⟨w.heap.size, 0, none⟩ = some (.int .i64 r0) ∧ z.cell? ⟨w.heap.size, 1, none⟩ = some (.int .i64 s0) ∧ z.cell? ⟨w.heap.size, 2, none⟩ = some (.slice ad0 es0.length cap0) ∧ z.cell? ⟨w.heap.size + 1, 0, none⟩ = some (.int .i64 fk1) ∧ z.cell? ⟨w.heap.size + 1, 1, none⟩ = some (.int .i64 fd1))) (by kernel_rfl) ?_ (fun hHeld => ?_)
    · try dsimp only
      rw [← hwd.out]
      ((repeat' apply And.intro) <;> assumption)
    rw [← hwd.out] at hHeld ⊢
    refine take_at 0 22 (v := ?_) rfl (by kernel_rfl) (by kernel_rfl) (by kernel_rfl) (by kernel_rfl) hpan (Or.inl ⟨by rfl, ?_⟩) (by assumption) ?_
    rotate_left
    · intro w hSw; (try dsimp only at hSw); go_simp; with_reducible rfl
    simp only [Act.put, List.setIfInBounds_toArray, List.set_cons_zero, List.set_cons_succ]
    refine take_at 2 24 (v := ?_) rfl (by kernel_rfl) (by kernel_rfl) (by kernel_rfl) (by kernel_rfl) hpan (Or.inl ⟨by rfl, ?_⟩) (by assumption) ?_
    rotate_left
    · intro w hSw; (try dsimp only at hSw); go_simp; with_reducible rfl
    simp only [Act.put, List.setIfInBounds_toArray, List.set_cons_zero, List.set_cons_succ]
    refine wpAnyH_ready (rs := [1, 8]) (by kernel_rfl) (by simp) ?_
    refine AllReadyH.cons rfl (fun K hK => ?_) ?_
    ·
      rw [if_pos (by rfl)]
      go_simp
      go_at_call 11
      (with_reducible refine (toGraph_any wd r0 s0 _ es0.length (flatE es0) ((hr0.out.below (hb3.trans (hbwd.mono hb3.size))).mono (by omega)) (by omega)).mono ?_)
      rintro e v0 ⟨ua0, uc0, rfl, hrow0, hbx⟩
      have hbv0 := hbwd.trans (hbx.mono hbwd.size)
      have hsv0 := hbx.size
      replace ya00 := (hbx.cell (p := (⟨w.heap.size, 0, none⟩ : Addr)) (show w.heap.size < wd.heap.size by omega)).trans ya00
      replace ya01 := (hbx.cell (p := (⟨w.heap.size, 1, none⟩ : Addr)) (show w.heap.size < wd.heap.size by omega)).trans ya01
      replace ya02 := (hbx.cell (p := (⟨w.heap.size, 2, none⟩ : Addr)) (show w.heap.size < wd.heap.size by omega)).trans ya02
      replace ya10 := (hbx.cell (p := (⟨w.heap.size + 1, 0, none⟩ : Addr)) (show w.heap.size + 1 < wd.heap.size by omega)).trans ya10
      replace ya11 := (hbx.cell (p := (⟨w.heap.size + 1, 1, none⟩ : Addr)) (show w.heap.size + 1 < wd.heap.size by omega)).trans ya11
      clear hbx
      have hu0 := hidI hrow0
      clear hrow0
      refine hK.out _ _ ?_ (fun hHeld => ?_)
      · try dsimp only
        ((repeat' apply And.intro) <;> assumption)
      clear hK
      try simp only [Act.put, List.setIfInBounds_toArray, List.set_cons_zero, List.set_cons_succ]
      refine wpAnyH_ready (rs := [3, 8]) (by kernel_rfl) (by simp) ?_
      refine AllReadyH.cons rfl (fun K hK => ?_) ?_
      ·
        rw [if_pos (by rfl)]
        go_simp
        go_at_call 16
        (with_reducible refine (toFold_any v0 fk1 fd1).mono ?_)
        rintro e v1 ⟨rfl, hbx⟩
        have hbv1 := hbv0.trans (hbx.mono hbv0.size)
        have hsv1 := hbx.size
        replace ya00 := (hbx.cell (p := (⟨w.heap.size, 0, none⟩ : Addr)) (show w.heap.size < v0.heap.size by omega)).trans ya00
        replace ya01 := (hbx.cell (p := (⟨w.heap.size, 1, none⟩ : Addr)) (show w.heap.size < v0.heap.size by omega)).trans ya01
        replace ya02 := (hbx.cell (p := (⟨w.heap.size, 2, none⟩ : Addr)) (show w.heap.size < v0.heap.size by omega)).trans ya02
        replace ya10 := (hbx.cell (p := (⟨w.heap.size + 1, 0, none⟩ : Addr)) (show w.heap.size + 1 < v0.heap.size by omega)).trans ya10
        replace ya11 := (hbx.cell (p := (⟨w.heap.size + 1, 1, none⟩ : Addr)) (show w.heap.size + 1 < v0.heap.size by omega)).trans ya11
        replace hu0 := hidI (hu0.out.below hbx (by omega))
        clear hbx
        refine hK.out _ _ ?_ (fun hHeld => ?_)
        · try dsimp only
          ((repeat' apply And.intro) <;> assumption)
        clear hK
        try simp only [Act.put, List.setIfInBounds_toArray, List.set_cons_zero, List.set_cons_succ]
        refine wpAnyH_ready (rs := [4, 8]) (by kernel_rfl) (by simp) ?_
        refine AllReadyH.cons rfl (fun K hK => ?_) ?_
        ·
          rw [if_pos (by rfl)]
          go_simp
          go_at_call 15
          (with_reducible refine (specMerge v1 r0 s0 fk1 fd1 _ es0 (hu0.out.read.mono (by omega)) bs0 (by omega)).mono ?_)
          intro e v2 hpost
          rw [← hF0.out, ← hFS0.out, ← hF1.out, ← hFR0.out] at hpost
          obtain ⟨ma, mc, rfl, hrow0, hbx⟩ := hpost
          have hbv2 := hbv1.trans (hbx.mono hbv1.size)
          have hsv2 := hbx.size
          replace ya00 := (hbx.cell (p := (⟨w.heap.size, 0, none⟩ : Addr)) (show w.heap.size < v1.heap.size by omega)).trans ya00
          replace ya01 := (hbx.cell (p := (⟨w.heap.size, 1, none⟩ : Addr)) (show w.heap.size < v1.heap.size by omega)).trans ya01
          replace ya02 := (hbx.cell (p := (⟨w.heap.size, 2, none⟩ : Addr)) (show w.heap.size < v1.heap.size by omega)).trans ya02
          replace ya10 := (hbx.cell (p := (⟨w.heap.size + 1, 0, none⟩ : Addr)) (show w.heap.size + 1 < v1.heap.size by omega)).trans ya10
          replace ya11 := (hbx.cell (p := (⟨w.heap.size + 1, 1, none⟩ : Addr)) (show w.heap.size + 1 < v1.heap.size by omega)).trans ya11
          replace hu0 := hidI (hu0.out.below hbx (by omega))
          clear hbx
          have hrowF := hidI hrow0
          clear hrow0
          refine hK.out _ _ ?_ (fun hHeld => ?_)
          · try dsimp only
            ((repeat' apply And.intro) <;> assumption)
          clear hK
          try simp only [Act.put, List.setIfInBounds_toArray, List.set_cons_zero, List.set_cons_succ]
          refine take_at 5 21 (v := ?_) rfl (by kernel_rfl) (by kernel_rfl) (by kernel_rfl) (by kernel_rfl) hpan (Or.inl ⟨by rfl, ?_⟩) (by assumption) ?_
          rotate_left
          · intro w hSw; (try dsimp only at hSw); go_simp; with_reducible rfl
          simp only [Act.put, List.setIfInBounds_toArray, List.set_cons_zero, List.set_cons_succ]
          refine take_at 6 27 (v := ?_) rfl (by kernel_rfl) (by kernel_rfl) (by kernel_rfl) (by kernel_rfl) hpan (Or.inl ⟨by rfl, ?_⟩) (by assumption) ?_
          rotate_left
          · intro w hSw; (try dsimp only at hSw); go_simp; with_reducible rfl
          simp only [Act.put, List.setIfInBounds_toArray, List.set_cons_zero, List.set_cons_succ]
          refine take_at 7 28 (v := ?_) rfl (by kernel_rfl) (by kernel_rfl) (by kernel_rfl) (by kernel_rfl) hpan (Or.inl ⟨by rfl, ?_⟩) (by assumption) ?_
          rotate_left
          · intro w hSw; (try dsimp only at hSw); go_simp; with_reducible rfl
          simp only [Act.put, List.setIfInBounds_toArray, List.set_cons_zero, List.set_cons_succ]
          refine wpAnyH_ready (rs := [8]) (by kernel_rfl) (by simp) ?_
          refine AllReadyH.cons rfl (fun K hK => ?_) AllReadyH.nil
          rw [if_pos (by rfl)]
          go_simp
          obtain ⟨v3, hn3⟩ : ∃ z, z = v2.alloc (.cells #[.int .i64 0, .int .i64 0, .slice none 0 0] 32) := ⟨_, rfl⟩
          have hbx : Below v2.heap.size v2 v3 := by rw [hn3]; exact (Below.refl _ _).alloc (Nat.le_refl _) _
          have hltA : v2.heap.size < v3.heap.size := by rw [hn3]; simp
          have hBA0 : v3.heap[v2.heap.size]? = some (.cells #[.int .i64 0, .int .i64 0, .slice none 0 0] 32 (0, 0)) := by rw [hn3]; exact heap_alloc_new _ _
          rw [← hn3]
          replace hn3 := hidI hn3
          have hbv3 := hbv2.trans (hbx.mono hbv2.size)
          have hsv3 := hbx.size
          replace ya00 := (hbx.cell (p := (⟨w.heap.size, 0, none⟩ : Addr)) (show w.heap.size < v2.heap.size by omega)).trans ya00
          replace ya01 := (hbx.cell (p := (⟨w.heap.size, 1, none⟩ : Addr)) (show w.heap.size < v2.heap.size by omega)).trans ya01
          replace ya02 := (hbx.cell (p := (⟨w.heap.size, 2, none⟩ : Addr)) (show w.heap.size < v2.heap.size by omega)).trans ya02
          replace ya10 := (hbx.cell (p := (⟨w.heap.size + 1, 0, none⟩ : Addr)) (show w.heap.size + 1 < v2.heap.size by omega)).trans ya10
          replace ya11 := (hbx.cell (p := (⟨w.heap.size + 1, 1, none⟩ : Addr)) (show w.heap.size + 1 < v2.heap.size by omega)).trans ya11
          replace hu0 := hidI (hu0.out.below hbx (by omega))
          replace hrowF := hidI (hrowF.out.below hbx (by omega))
          clear hbx
          have hBA := hidI hBA0
          clear hBA0
          refine hK.out _ _ ?_ (fun hHeld => ?_)
          · try dsimp only
            ((repeat' apply And.intro) <;> assumption)
          clear hK
          try simp only [Act.put, List.setIfInBounds_toArray, List.set_cons_zero, List.set_cons_succ]
          refine wpAnyH_ready (rs := [9]) (by kernel_rfl) (by simp) ?_
          refine AllReadyH.cons rfl (fun K hK => ?_) AllReadyH.nil
          rw [if_pos (by rfl)]
          have z0 := cell_of_heap hBA.out 0
          have z1 := cell_of_heap hBA.out 1
          have z2 := cell_of_heap hBA.out 2
          have fz := fun j => frozen_of_row v3 v2.heap.size j _ _ hBA.out
          simp at z0 z1 z2
          obtain ⟨v4, hn4⟩ : ∃ z, z = ((v3.setCell ⟨v2.heap.size, 0, none⟩ (.int .i64 FR0)).setCell ⟨v2.heap.size, 1, none⟩ (.int .i64 FS0)).setCell ⟨v2.heap.size, 2, none⟩ (.slice ma F0.length mc) := ⟨_, rfl⟩
          replace ya00 : v4.cell? ⟨w.heap.size, 0, none⟩ = some (.int .i64 r0) := by rw [hn4, World.cell?_of_block (heap_set3 (show w.heap.size ≠ v2.heap.size by omega))]; exact ya00
          replace ya01 : v4.cell? ⟨w.heap.size, 1, none⟩ = some (.int .i64 s0) := by rw [hn4, World.cell?_of_block (heap_set3 (show w.heap.size ≠ v2.heap.size by omega))]; exact ya01
          replace ya02 : v4.cell? ⟨w.heap.size, 2, none⟩ = some (.slice ad0 es0.length cap0) := by rw [hn4, World.cell?_of_block (heap_set3 (show w.heap.size ≠ v2.heap.size by omega))]; exact ya02
          replace ya10 : v4.cell? ⟨w.heap.size + 1, 0, none⟩ = some (.int .i64 fk1) := by rw [hn4, World.cell?_of_block (heap_set3 (show w.heap.size + 1 ≠ v2.heap.size by omega))]; exact ya10
          replace ya11 : v4.cell? ⟨w.heap.size + 1, 1, none⟩ = some (.int .i64 fd1) := by rw [hn4, World.cell?_of_block (heap_set3 (show w.heap.size + 1 ≠ v2.heap.size by omega))]; exact ya11
          have hrel : BoxRel w3' FR0 FS0 F0 v2.heap.size v1.heap.size v2.heap.size ma mc v4 := by
            rw [hn4]
            exact ⟨by omega, by rw [size_set3]; omega, set3 hBA.out _ _ _, by omega, by rw [size_set3]; omega, by omega, by omega, hrowF.out.set3_ (by omega), below_set3 hbv3 (by omega)⟩
          replace hrel := hidI hrel
          replace hn4 := hidI hn4
          go_simp
          rw [← hn4.out]
          clear z0 z1 z2 fz
          refine hK.out _ _ ?_ (fun hHeld => ?_)
          · try dsimp only
            ((repeat' apply And.intro) <;> assumption)
          clear hK
          try simp only [Act.put, List.setIfInBounds_toArray, List.set_cons_zero, List.set_cons_succ]
          refine take_at 10 7 (v := ?_) rfl (by kernel_rfl) (by kernel_rfl) (by kernel_rfl) (by kernel_rfl) hpan (Or.inl ⟨by rfl, ?_⟩) (by assumption) ?_
          rotate_left
          · intro w hSw; (try dsimp only at hSw); go_simp; with_reducible rfl
          simp only [Act.put, List.setIfInBounds_toArray, List.set_cons_zero, List.set_cons_succ]
          refine wpAnyH_done (by kernel_rfl) ?_ _
          refine hnorm _ _ ?_
          clear hnorm hpan
          repeat clear hHeld
          try simp only [Exit.then]
          go_wp2_with fail
          go_meet
          exact ⟨_, _, _, _, _, rfl, rfl, hrel.out⟩
        refine AllReadyH.cons rfl (fun K hK => ?_) AllReadyH.nil
        rw [if_pos (by rfl)]
        go_simp
        obtain ⟨v2, hn2⟩ : ∃ z, z = v1.alloc (.cells #[.int .i64 0, .int .i64 0, .slice none 0 0] 32) := ⟨_, rfl⟩
        have hbx : Below v1.heap.size v1 v2 := by rw [hn2]; exact (Below.refl _ _).alloc (Nat.le_refl _) _
        have hltA : v1.heap.size < v2.heap.size := by rw [hn2]; simp
        have hBA0 : v2.heap[v1.heap.size]? = some (.cells #[.int .i64 0, .int .i64 0, .slice none 0 0] 32 (0, 0)) := by rw [hn2]; exact heap_alloc_new _ _
        rw [← hn2]
        replace hn2 := hidI hn2
        have hbv2 := hbv1.trans (hbx.mono hbv1.size)
        have hsv2 := hbx.size
        replace ya00 := (hbx.cell (p := (⟨w.heap.size, 0, none⟩ : Addr)) (show w.heap.size < v1.heap.size by omega)).trans ya00
        replace ya01 := (hbx.cell (p := (⟨w.heap.size, 1, none⟩ : Addr)) (show w.heap.size < v1.heap.size by omega)).trans ya01
        replace ya02 := (hbx.cell (p := (⟨w.heap.size, 2, none⟩ : Addr)) (show w.heap.size < v1.heap.size by omega)).trans ya02
        replace ya10 := (hbx.cell (p := (⟨w.heap.size + 1, 0, none⟩ : Addr)) (show w.heap.size + 1 < v1.heap.size by omega)).trans ya10
        replace ya11 := (hbx.cell (p := (⟨w.heap.size + 1, 1, none⟩ : Addr)) (show w.heap.size + 1 < v1.heap.size by omega)).trans ya11
        replace hu0 := hidI (hu0.out.below hbx (by omega))
        clear hbx
        have hBA := hidI hBA0
        clear hBA0
        refine hK.out _ _ ?_ (fun hHeld => ?_)
        · try dsimp only
          ((repeat' apply And.intro) <;> assumption)
        clear hK
        try simp only [Act.put, List.setIfInBounds_toArray, List.set_cons_zero, List.set_cons_succ]
        refine wpAnyH_ready (rs := [4]) (by kernel_rfl) (by simp) ?_
        refine AllReadyH.cons rfl (fun K hK => ?_) AllReadyH.nil
        rw [if_pos (by rfl)]
        go_simp
        go_at_call 15
        (with_reducible refine (specMerge v2 r0 s0 fk1 fd1 _ es0 (hu0.out.read.mono (by omega)) bs0 (by omega)).mono ?_)
        intro e v3 hpost
        rw [← hF0.out, ← hFS0.out, ← hF1.out, ← hFR0.out] at hpost
        obtain ⟨ma, mc, rfl, hrow0, hbx⟩ := hpost
        have hbv3 := hbv2.trans (hbx.mono hbv2.size)
        have hsv3 := hbx.size
        replace ya00 := (hbx.cell (p := (⟨w.heap.size, 0, none⟩ : Addr)) (show w.heap.size < v2.heap.size by omega)).trans ya00
        replace ya01 := (hbx.cell (p := (⟨w.heap.size, 1, none⟩ : Addr)) (show w.heap.size < v2.heap.size by omega)).trans ya01
        replace ya02 := (hbx.cell (p := (⟨w.heap.size, 2, none⟩ : Addr)) (show w.heap.size < v2.heap.size by omega)).trans ya02
        replace ya10 := (hbx.cell (p := (⟨w.heap.size + 1, 0, none⟩ : Addr)) (show w.heap.size + 1 < v2.heap.size by omega)).trans ya10
        replace ya11 := (hbx.cell (p := (⟨w.heap.size + 1, 1, none⟩ : Addr)) (show w.heap.size + 1 < v2.heap.size by omega)).trans ya11
        replace hu0 := hidI (hu0.out.below hbx (by omega))
        replace hBA := hidI ((hbx.block _ (by omega)).trans hBA.out)
        clear hbx
        have hrowF := hidI hrow0
        clear hrow0
        refine hK.out _ _ ?_ (fun hHeld => ?_)
        · try dsimp only
          ((repeat' apply And.intro) <;> assumption)
        clear hK
        try simp only [Act.put, List.setIfInBounds_toArray, List.set_cons_zero, List.set_cons_succ]
        refine take_at 5 21 (v := ?_) rfl (by kernel_rfl) (by kernel_rfl) (by kernel_rfl) (by kernel_rfl) hpan (Or.inl ⟨by rfl, ?_⟩) (by assumption) ?_
        rotate_left
        · intro w hSw; (try dsimp only at hSw); go_simp; with_reducible rfl
        simp only [Act.put, List.setIfInBounds_toArray, List.set_cons_zero, List.set_cons_succ]
        refine take_at 6 27 (v := ?_) rfl (by kernel_rfl) (by kernel_rfl) (by kernel_rfl) (by kernel_rfl) hpan (Or.inl ⟨by rfl, ?_⟩) (by assumption) ?_
        rotate_left
        · intro w hSw; (try dsimp only at hSw); go_simp; with_reducible rfl
        simp only [Act.put, List.setIfInBounds_toArray, List.set_cons_zero, List.set_cons_succ]
        refine take_at 7 28 (v := ?_) rfl (by kernel_rfl) (by kernel_rfl) (by kernel_rfl) (by kernel_rfl) hpan (Or.inl ⟨by rfl, ?_⟩) (by assumption) ?_
        rotate_left
        · intro w hSw; (try dsimp only at hSw); go_simp; with_reducible rfl
        simp only [Act.put, List.setIfInBounds_toArray, List.set_cons_zero, List.set_cons_succ]
        refine wpAnyH_ready (rs := [9]) (by kernel_rfl) (by simp) ?_
        refine AllReadyH.cons rfl (fun K hK => ?_) AllReadyH.nil
        rw [if_pos (by rfl)]
        have z0 := cell_of_heap hBA.out 0
        have z1 := cell_of_heap hBA.out 1
        have z2 := cell_of_heap hBA.out 2
        have fz := fun j => frozen_of_row v3 v1.heap.size j _ _ hBA.out
        simp at z0 z1 z2
        obtain ⟨v4, hn4⟩ : ∃ z, z = ((v3.setCell ⟨v1.heap.size, 0, none⟩ (.int .i64 FR0)).setCell ⟨v1.heap.size, 1, none⟩ (.int .i64 FS0)).setCell ⟨v1.heap.size, 2, none⟩ (.slice ma F0.length mc) := ⟨_, rfl⟩
        replace ya00 : v4.cell? ⟨w.heap.size, 0, none⟩ = some (.int .i64 r0) := by rw [hn4, World.cell?_of_block (heap_set3 (show w.heap.size ≠ v1.heap.size by omega))]; exact ya00
        replace ya01 : v4.cell? ⟨w.heap.size, 1, none⟩ = some (.int .i64 s0) := by rw [hn4, World.cell?_of_block (heap_set3 (show w.heap.size ≠ v1.heap.size by omega))]; exact ya01
        replace ya02 : v4.cell? ⟨w.heap.size, 2, none⟩ = some (.slice ad0 es0.length cap0) := by rw [hn4, World.cell?_of_block (heap_set3 (show w.heap.size ≠ v1.heap.size by omega))]; exact ya02
        replace ya10 : v4.cell? ⟨w.heap.size + 1, 0, none⟩ = some (.int .i64 fk1) := by rw [hn4, World.cell?_of_block (heap_set3 (show w.heap.size + 1 ≠ v1.heap.size by omega))]; exact ya10
        replace ya11 : v4.cell? ⟨w.heap.size + 1, 1, none⟩ = some (.int .i64 fd1) := by rw [hn4, World.cell?_of_block (heap_set3 (show w.heap.size + 1 ≠ v1.heap.size by omega))]; exact ya11
        have hrel : BoxRel w3' FR0 FS0 F0 v1.heap.size v2.heap.size v3.heap.size ma mc v4 := by
          rw [hn4]
          exact ⟨by omega, by rw [size_set3]; omega, set3 hBA.out _ _ _, by omega, by rw [size_set3]; omega, by omega, by omega, hrowF.out.set3_ (by omega), below_set3 hbv3 (by omega)⟩
        replace hrel := hidI hrel
        replace hn4 := hidI hn4
        go_simp
        rw [← hn4.out]
        clear z0 z1 z2 fz
        refine hK.out _ _ ?_ (fun hHeld => ?_)
        · try dsimp only
          ((repeat' apply And.intro) <;> assumption)
        clear hK
        try simp only [Act.put, List.setIfInBounds_toArray, List.set_cons_zero, List.set_cons_succ]
        refine take_at 10 7 (v := ?_) rfl (by kernel_rfl) (by kernel_rfl) (by kernel_rfl) (by kernel_rfl) hpan (Or.inl ⟨by rfl, ?_⟩) (by assumption) ?_
        rotate_left
        · intro w hSw; (try dsimp only at hSw); go_simp; with_reducible rfl
        simp only [Act.put, List.setIfInBounds_toArray, List.set_cons_zero, List.set_cons_succ]
        refine wpAnyH_done (by kernel_rfl) ?_ _
        refine hnorm _ _ ?_
        clear hnorm hpan
        repeat clear hHeld
        try simp only [Exit.then]
        go_wp2_with fail
        go_meet
        exact ⟨_, _, _, _, _, rfl, rfl, hrel.out⟩
      refine AllReadyH.cons rfl (fun K hK => ?_) AllReadyH.nil
      rw [if_pos (by rfl)]
      go_simp
      obtain ⟨v1, hn1⟩ : ∃ z, z = v0.alloc (.cells #[.int .i64 0, .int .i64 0, .slice none 0 0] 32) := ⟨_, rfl⟩
      have hbx : Below v0.heap.size v0 v1 := by rw [hn1]; exact (Below.refl _ _).alloc (Nat.le_refl _) _
      have hltA : v0.heap.size < v1.heap.size := by rw [hn1]; simp
      have hBA0 : v1.heap[v0.heap.size]? = some (.cells #[.int .i64 0, .int .i64 0, .slice none 0 0] 32 (0, 0)) := by rw [hn1]; exact heap_alloc_new _ _
      rw [← hn1]
      replace hn1 := hidI hn1
      have hbv1 := hbv0.trans (hbx.mono hbv0.size)
      have hsv1 := hbx.size
      replace ya00 := (hbx.cell (p := (⟨w.heap.size, 0, none⟩ : Addr)) (show w.heap.size < v0.heap.size by omega)).trans ya00
      replace ya01 := (hbx.cell (p := (⟨w.heap.size, 1, none⟩ : Addr)) (show w.heap.size < v0.heap.size by omega)).trans ya01
      replace ya02 := (hbx.cell (p := (⟨w.heap.size, 2, none⟩ : Addr)) (show w.heap.size < v0.heap.size by omega)).trans ya02
      replace ya10 := (hbx.cell (p := (⟨w.heap.size + 1, 0, none⟩ : Addr)) (show w.heap.size + 1 < v0.heap.size by omega)).trans ya10
      replace ya11 := (hbx.cell (p := (⟨w.heap.size + 1, 1, none⟩ : Addr)) (show w.heap.size + 1 < v0.heap.size by omega)).trans ya11
      replace hu0 := hidI (hu0.out.below hbx (by omega))
      clear hbx
      have hBA := hidI hBA0
      clear hBA0
      refine hK.out _ _ ?_ (fun hHeld => ?_)
      · try dsimp only
        ((repeat' apply And.intro) <;> assumption)
      clear hK
      try simp only [Act.put, List.setIfInBounds_toArray, List.set_cons_zero, List.set_cons_succ]
      refine wpAnyH_ready (rs := [3]) (by kernel_rfl) (by simp) ?_
      refine AllReadyH.cons rfl (fun K hK => ?_) AllReadyH.nil
      rw [if_pos (by rfl)]
      go_simp
      go_at_call 16
      (with_reducible refine (toFold_any v1 fk1 fd1).mono ?_)
      rintro e v2 ⟨rfl, hbx⟩
      have hbv2 := hbv1.trans (hbx.mono hbv1.size)
      have hsv2 := hbx.size
      replace ya00 := (hbx.cell (p := (⟨w.heap.size, 0, none⟩ : Addr)) (show w.heap.size < v1.heap.size by omega)).trans ya00
      replace ya01 := (hbx.cell (p := (⟨w.heap.size, 1, none⟩ : Addr)) (show w.heap.size < v1.heap.size by omega)).trans ya01
      replace ya02 := (hbx.cell (p := (⟨w.heap.size, 2, none⟩ : Addr)) (show w.heap.size < v1.heap.size by omega)).trans ya02
      replace ya10 := (hbx.cell (p := (⟨w.heap.size + 1, 0, none⟩ : Addr)) (show w.heap.size + 1 < v1.heap.size by omega)).trans ya10
      replace ya11 := (hbx.cell (p := (⟨w.heap.size + 1, 1, none⟩ : Addr)) (show w.heap.size + 1 < v1.heap.size by omega)).trans ya11
      replace hu0 := hidI (hu0.out.below hbx (by omega))
      replace hBA := hidI ((hbx.block _ (by omega)).trans hBA.out)
      clear hbx
      refine hK.out _ _ ?_ (fun hHeld => ?_)
      · try dsimp only
        ((repeat' apply And.intro) <;> assumption)
      clear hK
      try simp only [Act.put, List.setIfInBounds_toArray, List.set_cons_zero, List.set_cons_succ]
      refine wpAnyH_ready (rs := [4]) (by kernel_rfl) (by simp) ?_
      refine AllReadyH.cons rfl (fun K hK => ?_) AllReadyH.nil
      rw [if_pos (by rfl)]
      go_simp
      go_at_call 15
      (with_reducible refine (specMerge v2 r0 s0 fk1 fd1 _ es0 (hu0.out.read.mono (by omega)) bs0 (by omega)).mono ?_)
      intro e v3 hpost
      rw [← hF0.out, ← hFS0.out, ← hF1.out, ← hFR0.out] at hpost
      obtain ⟨ma, mc, rfl, hrow0, hbx⟩ := hpost
      have hbv3 := hbv2.trans (hbx.mono hbv2.size)
      have hsv3 := hbx.size
      replace ya00 := (hbx.cell (p := (⟨w.heap.size, 0, none⟩ : Addr)) (show w.heap.size < v2.heap.size by omega)).trans ya00
      replace ya01 := (hbx.cell (p := (⟨w.heap.size, 1, none⟩ : Addr)) (show w.heap.size < v2.heap.size by omega)).trans ya01
      replace ya02 := (hbx.cell (p := (⟨w.heap.size, 2, none⟩ : Addr)) (show w.heap.size < v2.heap.size by omega)).trans ya02
      replace ya10 := (hbx.cell (p := (⟨w.heap.size + 1, 0, none⟩ : Addr)) (show w.heap.size + 1 < v2.heap.size by omega)).trans ya10
      replace ya11 := (hbx.cell (p := (⟨w.heap.size + 1, 1, none⟩ : Addr)) (show w.heap.size + 1 < v2.heap.size by omega)).trans ya11
      replace hu0 := hidI (hu0.out.below hbx (by omega))
      replace hBA := hidI ((hbx.block _ (by omega)).trans hBA.out)
      clear hbx
      have hrowF := hidI hrow0
      clear hrow0
      refine hK.out _ _ ?_ (fun hHeld => ?_)
      · try dsimp only
        ((repeat' apply And.intro) <;> assumption)
      clear hK
      try simp only [Act.put, List.setIfInBounds_toArray, List.set_cons_zero, List.set_cons_succ]
      refine take_at 5 21 (v := ?_) rfl (by kernel_rfl) (by kernel_rfl) (by kernel_rfl) (by kernel_rfl) hpan (Or.inl ⟨by rfl, ?_⟩) (by assumption) ?_
      rotate_left
      · intro w hSw; (try dsimp only at hSw); go_simp; with_reducible rfl
      simp only [Act.put, List.setIfInBounds_toArray, List.set_cons_zero, List.set_cons_succ]
      refine take_at 6 27 (v := ?_) rfl (by kernel_rfl) (by kernel_rfl) (by kernel_rfl) (by kernel_rfl) hpan (Or.inl ⟨by rfl, ?_⟩) (by assumption) ?_
      rotate_left
      · intro w hSw; (try dsimp only at hSw); go_simp; with_reducible rfl
      simp only [Act.put, List.setIfInBounds_toArray, List.set_cons_zero, List.set_cons_succ]
      refine take_at 7 28 (v := ?_) rfl (by kernel_rfl) (by kernel_rfl) (by kernel_rfl) (by kernel_rfl) hpan (Or.inl ⟨by rfl, ?_⟩) (by assumption) ?_
      rotate_left
      · intro w hSw; (try dsimp only at hSw); go_simp; with_reducible rfl
      simp only [Act.put, List.setIfInBounds_toArray, List.set_cons_zero, List.set_cons_succ]
      refine wpAnyH_ready (rs := [9]) (by kernel_rfl) (by simp) ?_
      refine AllReadyH.cons rfl (fun K hK => ?_) AllReadyH.nil
      rw [if_pos (by rfl)]
      have z0 := cell_of_heap hBA.out 0
      have z1 := cell_of_heap hBA.out 1
      have z2 := cell_of_heap hBA.out 2
      have fz := fun j => frozen_of_row v3 v0.heap.size j _ _ hBA.out
      simp at z0 z1 z2
      obtain ⟨v4, hn4⟩ : ∃ z, z = ((v3.setCell ⟨v0.heap.size, 0, none⟩ (.int .i64 FR0)).setCell ⟨v0.heap.size, 1, none⟩ (.int .i64 FS0)).setCell ⟨v0.heap.size, 2, none⟩ (.slice ma F0.length mc) := ⟨_, rfl⟩
      replace ya00 : v4.cell? ⟨w.heap.size, 0, none⟩ = some (.int .i64 r0) := by rw [hn4, World.cell?_of_block (heap_set3 (show w.heap.size ≠ v0.heap.size by omega))]; exact ya00
      replace ya01 : v4.cell? ⟨w.heap.size, 1, none⟩ = some (.int .i64 s0) := by rw [hn4, World.cell?_of_block (heap_set3 (show w.heap.size ≠ v0.heap.size by omega))]; exact ya01
      replace ya02 : v4.cell? ⟨w.heap.size, 2, none⟩ = some (.slice ad0 es0.length cap0) := by rw [hn4, World.cell?_of_block (heap_set3 (show w.heap.size ≠ v0.heap.size by omega))]; exact ya02
      replace ya10 : v4.cell? ⟨w.heap.size + 1, 0, none⟩ = some (.int .i64 fk1) := by rw [hn4, World.cell?_of_block (heap_set3 (show w.heap.size + 1 ≠ v0.heap.size by omega))]; exact ya10
      replace ya11 : v4.cell? ⟨w.heap.size + 1, 1, none⟩ = some (.int .i64 fd1) := by rw [hn4, World.cell?_of_block (heap_set3 (show w.heap.size + 1 ≠ v0.heap.size by omega))]; exact ya11
      have hrel : BoxRel w3' FR0 FS0 F0 v0.heap.size v2.heap.size v3.heap.size ma mc v4 := by
        rw [hn4]
        exact ⟨by omega, by rw [size_set3]; omega, set3 hBA.out _ _ _, by omega, by rw [size_set3]; omega, by omega, by omega, hrowF.out.set3_ (by omega), below_set3 hbv3 (by omega)⟩
      replace hrel := hidI hrel
      replace hn4 := hidI hn4
      go_simp
      rw [← hn4.out]
      clear z0 z1 z2 fz
      refine hK.out _ _ ?_ (fun hHeld => ?_)
      · try dsimp only
        ((repeat' apply And.intro) <;> assumption)
      clear hK
      try simp only [Act.put, List.setIfInBounds_toArray, List.set_cons_zero, List.set_cons_succ]
      refine take_at 10 7 (v := ?_) rfl (by kernel_rfl) (by kernel_rfl) (by kernel_rfl) (by kernel_rfl) hpan (Or.inl ⟨by rfl, ?_⟩) (by assumption) ?_
      rotate_left
      · intro w hSw; (try dsimp only at hSw); go_simp; with_reducible rfl
      simp only [Act.put, List.setIfInBounds_toArray, List.set_cons_zero, List.set_cons_succ]
      refine wpAnyH_done (by kernel_rfl) ?_ _
      refine hnorm _ _ ?_
      clear hnorm hpan
      repeat clear hHeld
      try simp only [Exit.then]
      go_wp2_with fail
      go_meet
      exact ⟨_, _, _, _, _, rfl, rfl, hrel.out⟩
    refine AllReadyH.cons rfl (fun K hK => ?_) AllReadyH.nil
    rw [if_pos (by rfl)]
    go_simp
    obtain ⟨v0, hn0⟩ : ∃ z, z = wd.alloc (.cells #[.int .i64 0, .int .i64 0, .slice none 0 0] 32) := ⟨_, rfl⟩
    have hbx : Below wd.heap.size wd v0 := by rw [hn0]; exact (Below.refl _ _).alloc (Nat.le_refl _) _
    have hltA : wd.heap.size < v0.heap.size := by rw [hn0]; simp
    have hBA0 : v0.heap[wd.heap.size]? = some (.cells #[.int .i64 0, .int .i64 0, .slice none 0 0] 32 (0, 0)) := by rw [hn0]; exact heap_alloc_new _ _
    rw [← hn0]
    replace hn0 := hidI hn0
    have hbv0 := hbwd.trans (hbx.mono hbwd.size)
    have hsv0 := hbx.size
    replace ya00 := (hbx.cell (p := (⟨w.heap.size, 0, none⟩ : Addr)) (show w.heap.size < wd.heap.size by omega)).trans ya00
    replace ya01 := (hbx.cell (p := (⟨w.heap.size, 1, none⟩ : Addr)) (show w.heap.size < wd.heap.size by omega)).trans ya01
    replace ya02 := (hbx.cell (p := (⟨w.heap.size, 2, none⟩ : Addr)) (show w.heap.size < wd.heap.size by omega)).trans ya02
    replace ya10 := (hbx.cell (p := (⟨w.heap.size + 1, 0, none⟩ : Addr)) (show w.heap.size + 1 < wd.heap.size by omega)).trans ya10
    replace ya11 := (hbx.cell (p := (⟨w.heap.size + 1, 1, none⟩ : Addr)) (show w.heap.size + 1 < wd.heap.size by omega)).trans ya11
    clear hbx
    have hBA := hidI hBA0
    clear hBA0
    refine hK.out _ _ ?_ (fun hHeld => ?_)
    · try dsimp only
      ((repeat' apply And.intro) <;> assumption)
    clear hK
    try simp only [Act.put, List.setIfInBounds_toArray, List.set_cons_zero, List.set_cons_succ]
    refine wpAnyH_ready (rs := [1]) (by kernel_rfl) (by simp) ?_
    refine AllReadyH.cons rfl (fun K hK => ?_) AllReadyH.nil
    rw [if_pos (by rfl)]
    go_simp
    go_at_call 11
    (with_reducible refine (toGraph_any v0 r0 s0 _ es0.length (flatE es0) ((hr0.out.below (hb3.trans (hbv0.mono hb3.size))).mono (by omega)) (by omega)).mono ?_)
    rintro e v1 ⟨ua0, uc0, rfl, hrow0, hbx⟩
    have hbv1 := hbv0.trans (hbx.mono hbv0.size)
    have hsv1 := hbx.size
    replace ya00 := (hbx.cell (p := (⟨w.heap.size, 0, none⟩ : Addr)) (show w.heap.size < v0.heap.size by omega)).trans ya00
    replace ya01 := (hbx.cell (p := (⟨w.heap.size, 1, none⟩ : Addr)) (show w.heap.size < v0.heap.size by omega)).trans ya01
    replace ya02 := (hbx.cell (p := (⟨w.heap.size, 2, none⟩ : Addr)) (show w.heap.size < v0.heap.size by omega)).trans ya02
    replace ya10 := (hbx.cell (p := (⟨w.heap.size + 1, 0, none⟩ : Addr)) (show w.heap.size + 1 < v0.heap.size by omega)).trans ya10
    replace ya11 := (hbx.cell (p := (⟨w.heap.size + 1, 1, none⟩ : Addr)) (show w.heap.size + 1 < v0.heap.size by omega)).trans ya11
    replace hBA := hidI ((hbx.block _ (by omega)).trans hBA.out)
    clear hbx
    have hu0 := hidI hrow0
    clear hrow0
    refine hK.out _ _ ?_ (fun hHeld => ?_)
    · try dsimp only
      ((repeat' apply And.intro) <;> assumption)
    clear hK
    try simp only [Act.put, List.setIfInBounds_toArray, List.set_cons_zero, List.set_cons_succ]
    refine wpAnyH_ready (rs := [3]) (by kernel_rfl) (by simp) ?_
    refine AllReadyH.cons rfl (fun K hK => ?_) AllReadyH.nil
    rw [if_pos (by rfl)]
    go_simp
    go_at_call 16
    (with_reducible refine (toFold_any v1 fk1 fd1).mono ?_)
    rintro e v2 ⟨rfl, hbx⟩
    have hbv2 := hbv1.trans (hbx.mono hbv1.size)
    have hsv2 := hbx.size
    replace ya00 := (hbx.cell (p := (⟨w.heap.size, 0, none⟩ : Addr)) (show w.heap.size < v1.heap.size by omega)).trans ya00
    replace ya01 := (hbx.cell (p := (⟨w.heap.size, 1, none⟩ : Addr)) (show w.heap.size < v1.heap.size by omega)).trans ya01
    replace ya02 := (hbx.cell (p := (⟨w.heap.size, 2, none⟩ : Addr)) (show w.heap.size < v1.heap.size by omega)).trans ya02
    replace ya10 := (hbx.cell (p := (⟨w.heap.size + 1, 0, none⟩ : Addr)) (show w.heap.size + 1 < v1.heap.size by omega)).trans ya10
    replace ya11 := (hbx.cell (p := (⟨w.heap.size + 1, 1, none⟩ : Addr)) (show w.heap.size + 1 < v1.heap.size by omega)).trans ya11
    replace hu0 := hidI (hu0.out.below hbx (by omega))
    replace hBA := hidI ((hbx.block _ (by omega)).trans hBA.out)
    clear hbx
    refine hK.out _ _ ?_ (fun hHeld => ?_)
    · try dsimp only
      ((repeat' apply And.intro) <;> assumption)
    clear hK
    try simp only [Act.put, List.setIfInBounds_toArray, List.set_cons_zero, List.set_cons_succ]
    refine wpAnyH_ready (rs := [4]) (by kernel_rfl) (by simp) ?_
    refine AllReadyH.cons rfl (fun K hK => ?_) AllReadyH.nil
    rw [if_pos (by rfl)]
    go_simp
    go_at_call 15
    (with_reducible refine (specMerge v2 r0 s0 fk1 fd1 _ es0 (hu0.out.read.mono (by omega)) bs0 (by omega)).mono ?_)
    intro e v3 hpost
    rw [← hF0.out, ← hFS0.out, ← hF1.out, ← hFR0.out] at hpost
    obtain ⟨ma, mc, rfl, hrow0, hbx⟩ := hpost
    have hbv3 := hbv2.trans (hbx.mono hbv2.size)
    have hsv3 := hbx.size
    replace ya00 := (hbx.cell (p := (⟨w.heap.size, 0, none⟩ : Addr)) (show w.heap.size < v2.heap.size by omega)).trans ya00
    replace ya01 := (hbx.cell (p := (⟨w.heap.size, 1, none⟩ : Addr)) (show w.heap.size < v2.heap.size by omega)).trans ya01
    replace ya02 := (hbx.cell (p := (⟨w.heap.size, 2, none⟩ : Addr)) (show w.heap.size < v2.heap.size by omega)).trans ya02
    replace ya10 := (hbx.cell (p := (⟨w.heap.size + 1, 0, none⟩ : Addr)) (show w.heap.size + 1 < v2.heap.size by omega)).trans ya10
    replace ya11 := (hbx.cell (p := (⟨w.heap.size + 1, 1, none⟩ : Addr)) (show w.heap.size + 1 < v2.heap.size by omega)).trans ya11
    replace hu0 := hidI (hu0.out.below hbx (by omega))
    replace hBA := hidI ((hbx.block _ (by omega)).trans hBA.out)
    clear hbx
    have hrowF := hidI hrow0
    clear hrow0
    refine hK.out _ _ ?_ (fun hHeld => ?_)
    · try dsimp only
      ((repeat' apply And.intro) <;> assumption)
    clear hK
    try simp only [Act.put, List.setIfInBounds_toArray, List.set_cons_zero, List.set_cons_succ]
    refine take_at 5 21 (v := ?_) rfl (by kernel_rfl) (by kernel_rfl) (by kernel_rfl) (by kernel_rfl) hpan (Or.inl ⟨by rfl, ?_⟩) (by assumption) ?_
    rotate_left
    · intro w hSw; (try dsimp only at hSw); go_simp; with_reducible rfl
    simp only [Act.put, List.setIfInBounds_toArray, List.set_cons_zero, List.set_cons_succ]
    refine take_at 6 27 (v := ?_) rfl (by kernel_rfl) (by kernel_rfl) (by kernel_rfl) (by kernel_rfl) hpan (Or.inl ⟨by rfl, ?_⟩) (by assumption) ?_
    rotate_left
    · intro w hSw; (try dsimp only at hSw); go_simp; with_reducible rfl
    simp only [Act.put, List.setIfInBounds_toArray, List.set_cons_zero, List.set_cons_succ]
    refine take_at 7 28 (v := ?_) rfl (by kernel_rfl) (by kernel_rfl) (by kernel_rfl) (by kernel_rfl) hpan (Or.inl ⟨by rfl, ?_⟩) (by assumption) ?_
    rotate_left
    · intro w hSw; (try dsimp only at hSw); go_simp; with_reducible rfl
    simp only [Act.put, List.setIfInBounds_toArray, List.set_cons_zero, List.set_cons_succ]
    refine wpAnyH_ready (rs := [9]) (by kernel_rfl) (by simp) ?_
    refine AllReadyH.cons rfl (fun K hK => ?_) AllReadyH.nil
    rw [if_pos (by rfl)]
    have z0 := cell_of_heap hBA.out 0
    have z1 := cell_of_heap hBA.out 1
    have z2 := cell_of_heap hBA.out 2
    have fz := fun j => frozen_of_row v3 wd.heap.size j _ _ hBA.out
    simp at z0 z1 z2
    obtain ⟨v4, hn4⟩ : ∃ z, z = ((v3.setCell ⟨wd.heap.size, 0, none⟩ (.int .i64 FR0)).setCell ⟨wd.heap.size, 1, none⟩ (.int .i64 FS0)).setCell ⟨wd.heap.size, 2, none⟩ (.slice ma F0.length mc) := ⟨_, rfl⟩
    replace ya00 : v4.cell? ⟨w.heap.size, 0, none⟩ = some (.int .i64 r0) := by rw [hn4, World.cell?_of_block (heap_set3 (show w.heap.size ≠ wd.heap.size by omega))]; exact ya00
    replace ya01 : v4.cell? ⟨w.heap.size, 1, none⟩ = some (.int .i64 s0) := by rw [hn4, World.cell?_of_block (heap_set3 (show w.heap.size ≠ wd.heap.size by omega))]; exact ya01
    replace ya02 : v4.cell? ⟨w.heap.size, 2, none⟩ = some (.slice ad0 es0.length cap0) := by rw [hn4, World.cell?_of_block (heap_set3 (show w.heap.size ≠ wd.heap.size by omega))]; exact ya02
    replace ya10 : v4.cell? ⟨w.heap.size + 1, 0, none⟩ = some (.int .i64 fk1) := by rw [hn4, World.cell?_of_block (heap_set3 (show w.heap.size + 1 ≠ wd.heap.size by omega))]; exact ya10
    replace ya11 : v4.cell? ⟨w.heap.size + 1, 1, none⟩ = some (.int .i64 fd1) := by rw [hn4, World.cell?_of_block (heap_set3 (show w.heap.size + 1 ≠ wd.heap.size by omega))]; exact ya11
    have hrel : BoxRel w3' FR0 FS0 F0 wd.heap.size v2.heap.size v3.heap.size ma mc v4 := by
      rw [hn4]
      exact ⟨by omega, by rw [size_set3]; omega, set3 hBA.out _ _ _, by omega, by rw [size_set3]; omega, by omega, by omega, hrowF.out.set3_ (by omega), below_set3 hbv3 (by omega)⟩
    replace hrel := hidI hrel
    replace hn4 := hidI hn4
    go_simp
    rw [← hn4.out]
    clear z0 z1 z2 fz
    refine hK.out _ _ ?_ (fun hHeld => ?_)
    · try dsimp only
      ((repeat' apply And.intro) <;> assumption)
    clear hK
    try simp only [Act.put, List.setIfInBounds_toArray, List.set_cons_zero, List.set_cons_succ]
    refine take_at 10 7 (v := ?_) rfl (by kernel_rfl) (by kernel_rfl) (by kernel_rfl) (by kernel_rfl) hpan (Or.inl ⟨by rfl, ?_⟩) (by assumption) ?_
    rotate_left
    · intro w hSw; (try dsimp only at hSw); go_simp; with_reducible rfl
    simp only [Act.put, List.setIfInBounds_toArray, List.set_cons_zero, List.set_cons_succ]
    refine wpAnyH_done (by kernel_rfl) ?_ _
    refine hnorm _ _ ?_
    clear hnorm hpan
    repeat clear hHeld
    try simp only [Exit.then]
    go_wp2_with fail
    go_meet
    exact ⟨_, _, _, _, _, rfl, rfl, hrel.out⟩
  obtain ⟨w4', rfl⟩ : ∃ z, z = wc := ⟨_, rfl⟩
  obtain ⟨m0B, m0lo, m0hi, m0a, m0c, rfl, rfl, hqm01, hqm02, hqm03, hqm04, hqm05, hqm06, hqm07, hrow0, hbn⟩ := hcut
  clear hwd hdr hbwd hswd ya00 ya01 ya02 ya10 ya11
  have hb4 := hb3.trans (hbn.mono hb3.size)
  have hs4 := hbn.size
  replace ca00 := (hbn.cell (p := (⟨w.heap.size, 0, none⟩ : Addr)) (show w.heap.size < w3'.heap.size by omega)).trans ca00
  replace ca01 := (hbn.cell (p := (⟨w.heap.size, 1, none⟩ : Addr)) (show w.heap.size < w3'.heap.size by omega)).trans ca01
  replace ca02 := (hbn.cell (p := (⟨w.heap.size, 2, none⟩ : Addr)) (show w.heap.size < w3'.heap.size by omega)).trans ca02
  replace ca10 := (hbn.cell (p := (⟨w.heap.size + 1, 0, none⟩ : Addr)) (show w.heap.size + 1 < w3'.heap.size by omega)).trans ca10
  replace ca11 := (hbn.cell (p := (⟨w.heap.size + 1, 1, none⟩ : Addr)) (show w.heap.size + 1 < w3'.heap.size by omega)).trans ca11
  clear hbn
  have hm0 := hidI hrow0
  clear hrow0
  have cm00 : w4'.cell? ⟨m0B, 0, none⟩ = some (.int .i64 FR0) := by simpa using cell_of_heap hqm03 0
  have cm01 : w4'.cell? ⟨m0B, 1, none⟩ = some (.int .i64 FS0) := by simpa using cell_of_heap hqm03 1
  have cm02 : w4'.cell? ⟨m0B, 2, none⟩ = some (.slice m0a F0.length m0c) := by simpa using cell_of_heap hqm03 2
  clear hqm03
  go_wp2_with fail
  refine (toGraph_any w4' r0 s0 _ es0.length (flatE es0) ((hr0.out.below hb4).mono hb4.size) (by omega)).mono ?_
  rintro e w5' ⟨x0a, x0c, rfl, hrow, hbn⟩
  have hb5 := hb4.trans (hbn.mono hb4.size)
  have hs5 := hbn.size
  replace hm0 := hidI (hm0.out.below hbn (by omega))
  replace ca00 := (hbn.cell (p := (⟨w.heap.size, 0, none⟩ : Addr)) (show w.heap.size < w4'.heap.size by omega)).trans ca00
  replace ca01 := (hbn.cell (p := (⟨w.heap.size, 1, none⟩ : Addr)) (show w.heap.size < w4'.heap.size by omega)).trans ca01
  replace ca02 := (hbn.cell (p := (⟨w.heap.size, 2, none⟩ : Addr)) (show w.heap.size < w4'.heap.size by omega)).trans ca02
  replace ca10 := (hbn.cell (p := (⟨w.heap.size + 1, 0, none⟩ : Addr)) (show w.heap.size + 1 < w4'.heap.size by omega)).trans ca10
  replace ca11 := (hbn.cell (p := (⟨w.heap.size + 1, 1, none⟩ : Addr)) (show w.heap.size + 1 < w4'.heap.size by omega)).trans ca11
  replace cm00 := (hbn.cell (p := (⟨m0B, 0, none⟩ : Addr)) (show m0B < w4'.heap.size by omega)).trans cm00
  replace cm01 := (hbn.cell (p := (⟨m0B, 1, none⟩ : Addr)) (show m0B < w4'.heap.size by omega)).trans cm01
  replace cm02 := (hbn.cell (p := (⟨m0B, 2, none⟩ : Addr)) (show m0B < w4'.heap.size by omega)).trans cm02
  clear hbn
  have hx0 := hidI hrow
  clear hrow
  have da00_6 : ∀ o : Obj, (w5'.alloc o).cell? ⟨w.heap.size, 0, none⟩ = some (.int .i64 r0) := fun o => (((Below.refl w5'.heap.size w5').alloc (Nat.le_refl _) o).cell (p := (⟨w.heap.size, 0, none⟩ : Addr)) (show w.heap.size < w5'.heap.size by omega)).trans ca00
  have da01_6 : ∀ o : Obj, (w5'.alloc o).cell? ⟨w.heap.size, 1, none⟩ = some (.int .i64 s0) := fun o => (((Below.refl w5'.heap.size w5').alloc (Nat.le_refl _) o).cell (p := (⟨w.heap.size, 1, none⟩ : Addr)) (show w.heap.size < w5'.heap.size by omega)).trans ca01
  have da02_6 : ∀ o : Obj, (w5'.alloc o).cell? ⟨w.heap.size, 2, none⟩ = some (.slice ad0 es0.length cap0) := fun o => (((Below.refl w5'.heap.size w5').alloc (Nat.le_refl _) o).cell (p := (⟨w.heap.size, 2, none⟩ : Addr)) (show w.heap.size < w5'.heap.size by omega)).trans ca02
  have da10_6 : ∀ o : Obj, (w5'.alloc o).cell? ⟨w.heap.size + 1, 0, none⟩ = some (.int .i64 fk1) := fun o => (((Below.refl w5'.heap.size w5').alloc (Nat.le_refl _) o).cell (p := (⟨w.heap.size + 1, 0, none⟩ : Addr)) (show w.heap.size + 1 < w5'.heap.size by omega)).trans ca10
  have da11_6 : ∀ o : Obj, (w5'.alloc o).cell? ⟨w.heap.size + 1, 1, none⟩ = some (.int .i64 fd1) := fun o => (((Below.refl w5'.heap.size w5').alloc (Nat.le_refl _) o).cell (p := (⟨w.heap.size + 1, 1, none⟩ : Addr)) (show w.heap.size + 1 < w5'.heap.size by omega)).trans ca11
  have dm00_6 : ∀ o : Obj, (w5'.alloc o).cell? ⟨m0B, 0, none⟩ = some (.int .i64 FR0) := fun o => (((Below.refl w5'.heap.size w5').alloc (Nat.le_refl _) o).cell (p := (⟨m0B, 0, none⟩ : Addr)) (show m0B < w5'.heap.size by omega)).trans cm00
  have dm01_6 : ∀ o : Obj, (w5'.alloc o).cell? ⟨m0B, 1, none⟩ = some (.int .i64 FS0) := fun o => (((Below.refl w5'.heap.size w5').alloc (Nat.le_refl _) o).cell (p := (⟨m0B, 1, none⟩ : Addr)) (show m0B < w5'.heap.size by omega)).trans cm01
  have dm02_6 : ∀ o : Obj, (w5'.alloc o).cell? ⟨m0B, 2, none⟩ = some (.slice m0a F0.length m0c) := fun o => (((Below.refl w5'.heap.size w5').alloc (Nat.le_refl _) o).cell (p := (⟨m0B, 2, none⟩ : Addr)) (show m0B < w5'.heap.size by omega)).trans cm02
  obtain ⟨w6', hw6⟩ : ∃ z, z = w5'.alloc (.cells #[.int .i64 r0, .int .i64 s0, .slice x0a es0.length x0c] 32) := ⟨_, rfl⟩
  have hbn : Below w5'.heap.size w5' w6' := by rw [hw6]; exact (Below.refl _ _).alloc (Nat.le_refl _) _
  have hlt6 : w5'.heap.size < w6'.heap.size := by rw [hw6]; simp
  have hnb : w6'.heap[w5'.heap.size]? = some (.cells #[.int .i64 r0, .int .i64 s0, .slice x0a es0.length x0c] 32 (0, 0)) := by rw [hw6]; exact heap_alloc_new _ _
  replace hw6 := hidI hw6
  have hb6 := hb5.trans (hbn.mono hb5.size)
  have hs6 := hbn.size
  replace hm0 := hidI (hm0.out.below hbn (by omega))
  replace hx0 := hidI (hx0.out.below hbn (by omega))
  replace ca00 := (hbn.cell (p := (⟨w.heap.size, 0, none⟩ : Addr)) (show w.heap.size < w5'.heap.size by omega)).trans ca00
  replace ca01 := (hbn.cell (p := (⟨w.heap.size, 1, none⟩ : Addr)) (show w.heap.size < w5'.heap.size by omega)).trans ca01
  replace ca02 := (hbn.cell (p := (⟨w.heap.size, 2, none⟩ : Addr)) (show w.heap.size < w5'.heap.size by omega)).trans ca02
  replace ca10 := (hbn.cell (p := (⟨w.heap.size + 1, 0, none⟩ : Addr)) (show w.heap.size + 1 < w5'.heap.size by omega)).trans ca10
  replace ca11 := (hbn.cell (p := (⟨w.heap.size + 1, 1, none⟩ : Addr)) (show w.heap.size + 1 < w5'.heap.size by omega)).trans ca11
  replace cm00 := (hbn.cell (p := (⟨m0B, 0, none⟩ : Addr)) (show m0B < w5'.heap.size by omega)).trans cm00
  replace cm01 := (hbn.cell (p := (⟨m0B, 1, none⟩ : Addr)) (show m0B < w5'.heap.size by omega)).trans cm01
  replace cm02 := (hbn.cell (p := (⟨m0B, 2, none⟩ : Addr)) (show m0B < w5'.heap.size by omega)).trans cm02
  clear hbn
  have cx00 : w6'.cell? ⟨w5'.heap.size, 0, none⟩ = some (.int .i64 r0) := by simpa using cell_of_heap hnb 0
  have cx01 : w6'.cell? ⟨w5'.heap.size, 1, none⟩ = some (.int .i64 s0) := by simpa using cell_of_heap hnb 1
  have cx02 : w6'.cell? ⟨w5'.heap.size, 2, none⟩ = some (.slice x0a es0.length x0c) := by simpa using cell_of_heap hnb 2
  clear hnb
  go_wp2_with fail
  try rw [← hw6.out]
  clear da00_6 da01_6 da02_6 da10_6 da11_6 dm00_6 dm01_6 dm02_6
  have hdr := below_dn (Below.refl w6'.heap.size w6') 1
  obtain ⟨wd, hwd⟩ : ∃ z, z = w6'.drew := ⟨_, rfl⟩
  have hbwd : Below w6'.heap.size w6' wd := by rw [hwd]; exact hdr
  have hswd := hbwd.size
  have yx00 := (hbwd.cell (p := (⟨w5'.heap.size, 0, none⟩ : Addr)) (show w5'.heap.size < w6'.heap.size by omega)).trans cx00
  have yx01 := (hbwd.cell (p := (⟨w5'.heap.size, 1, none⟩ : Addr)) (show w5'.heap.size < w6'.heap.size by omega)).trans cx01
  have yx02 := (hbwd.cell (p := (⟨w5'.heap.size, 2, none⟩ : Addr)) (show w5'.heap.size < w6'.heap.size by omega)).trans cx02
  have ya10 := (hbwd.cell (p := (⟨w.heap.size + 1, 0, none⟩ : Addr)) (show w.heap.size + 1 < w6'.heap.size by omega)).trans ca10
  have ya11 := (hbwd.cell (p := (⟨w.heap.size + 1, 1, none⟩ : Addr)) (show w.heap.size + 1 < w6'.heap.size by omega)).trans ca11
  replace hwd := hidI hwd
  go_cut [9, 10] from 31 to 37 (fun b x wx => ∃ (B lo hi : Nat) (a : Option Addr) (c : Nat), b = .pointer (some ⟨B, 0, none⟩) ∧ x = .bool F1 ∧ BoxRel w6' FR0 FS0 F0 B lo hi a c wx)
  case first =>
    refine hideQ (fun _ _ d _ _ h => by cases d <;> exact h) (fun Q' hnorm hpan => ?_)
    refine wp_region_held_drew (S := (fun z => z.cell? ⟨w5'.heap.size, 0, none⟩ = some (.int .i64 r0) ∧ z.cell? ⟨w5'.heap.size, 1, none⟩ = some (.int .i64 s0) ∧ z.cell? ⟨w5'.heap.size, 2, none⟩ = some (.slice x0a es0.length x0c) ∧ z.cell? ⟨w.heap.size + 1, 0, none⟩ = some (.int .i64 fk1) ∧ z.cell? ⟨w.heap.size + 1, 1, none⟩ = some (.int .i64 fd1))) (by kernel_rfl) ?_ (fun hHeld => ?_)
    · try dsimp only
      rw [← hwd.out]
      ((repeat' apply And.intro) <;> assumption)
    rw [← hwd.out] at hHeld ⊢
    replace hx0 := hidI (hx0.out.below hbwd (by omega))
    refine take_at 0 32 (v := ?_) rfl (by kernel_rfl) (by kernel_rfl) (by kernel_rfl) (by kernel_rfl) hpan (Or.inl ⟨by rfl, ?_⟩) (by assumption) ?_
    rotate_left
    · intro w hSw; (try dsimp only at hSw); go_simp; with_reducible rfl
    simp only [Act.put, List.setIfInBounds_toArray, List.set_cons_zero, List.set_cons_succ]
    refine take_at 1 33 (v := ?_) rfl (by kernel_rfl) (by kernel_rfl) (by kernel_rfl) (by kernel_rfl) hpan (Or.inl ⟨by rfl, ?_⟩) (by assumption) ?_
    rotate_left
    · intro w hSw; (try dsimp only at hSw); go_simp; with_reducible rfl
    simp only [Act.put, List.setIfInBounds_toArray, List.set_cons_zero, List.set_cons_succ]
    refine wpAnyH_ready (rs := [2, 7]) (by kernel_rfl) (by simp) ?_
    refine AllReadyH.cons rfl (fun K hK => ?_) ?_
    ·
      rw [if_pos (by rfl)]
      go_simp
      go_at_call 16
      (with_reducible refine (toFold_any wd fk1 fd1).mono ?_)
      rintro e v0 ⟨rfl, hbx⟩
      have hbv0 := hbwd.trans (hbx.mono hbwd.size)
      have hsv0 := hbx.size
      replace yx00 := (hbx.cell (p := (⟨w5'.heap.size, 0, none⟩ : Addr)) (show w5'.heap.size < wd.heap.size by omega)).trans yx00
      replace yx01 := (hbx.cell (p := (⟨w5'.heap.size, 1, none⟩ : Addr)) (show w5'.heap.size < wd.heap.size by omega)).trans yx01
      replace yx02 := (hbx.cell (p := (⟨w5'.heap.size, 2, none⟩ : Addr)) (show w5'.heap.size < wd.heap.size by omega)).trans yx02
      replace ya10 := (hbx.cell (p := (⟨w.heap.size + 1, 0, none⟩ : Addr)) (show w.heap.size + 1 < wd.heap.size by omega)).trans ya10
      replace ya11 := (hbx.cell (p := (⟨w.heap.size + 1, 1, none⟩ : Addr)) (show w.heap.size + 1 < wd.heap.size by omega)).trans ya11
      replace hx0 := hidI (hx0.out.below hbx (by omega))
      clear hbx
      refine hK.out _ _ ?_ (fun hHeld => ?_)
      · try dsimp only
        ((repeat' apply And.intro) <;> assumption)
      clear hK
      try simp only [Act.put, List.setIfInBounds_toArray, List.set_cons_zero, List.set_cons_succ]
      refine wpAnyH_ready (rs := [3, 7]) (by kernel_rfl) (by simp) ?_
      refine AllReadyH.cons rfl (fun K hK => ?_) ?_
      ·
        rw [if_pos (by rfl)]
        go_simp
        go_at_call 17
        (with_reducible refine (progMerge v0 r0 s0 fk1 fd1 _ es0 (hx0.out.read.mono (by omega)) (by omega)).mono ?_)
        intro e v1 hpost
        rw [← hF0.out, ← hFS0.out, ← hF1.out, ← hFR0.out] at hpost
        obtain ⟨ma, mc, rfl, hrow0, hbx⟩ := hpost
        have hbv1 := hbv0.trans (hbx.mono hbv0.size)
        have hsv1 := hbx.size
        replace yx00 := (hbx.cell (p := (⟨w5'.heap.size, 0, none⟩ : Addr)) (show w5'.heap.size < v0.heap.size by omega)).trans yx00
        replace yx01 := (hbx.cell (p := (⟨w5'.heap.size, 1, none⟩ : Addr)) (show w5'.heap.size < v0.heap.size by omega)).trans yx01
        replace yx02 := (hbx.cell (p := (⟨w5'.heap.size, 2, none⟩ : Addr)) (show w5'.heap.size < v0.heap.size by omega)).trans yx02
        replace ya10 := (hbx.cell (p := (⟨w.heap.size + 1, 0, none⟩ : Addr)) (show w.heap.size + 1 < v0.heap.size by omega)).trans ya10
        replace ya11 := (hbx.cell (p := (⟨w.heap.size + 1, 1, none⟩ : Addr)) (show w.heap.size + 1 < v0.heap.size by omega)).trans ya11
        replace hx0 := hidI (hx0.out.below hbx (by omega))
        clear hbx
        have hrowF := hidI hrow0
        clear hrow0
        refine hK.out _ _ ?_ (fun hHeld => ?_)
        · try dsimp only
          ((repeat' apply And.intro) <;> assumption)
        clear hK
        try simp only [Act.put, List.setIfInBounds_toArray, List.set_cons_zero, List.set_cons_succ]
        refine take_at 4 31 (v := ?_) rfl (by kernel_rfl) (by kernel_rfl) (by kernel_rfl) (by kernel_rfl) hpan (Or.inl ⟨by rfl, ?_⟩) (by assumption) ?_
        rotate_left
        · intro w hSw; (try dsimp only at hSw); go_simp; with_reducible rfl
        simp only [Act.put, List.setIfInBounds_toArray, List.set_cons_zero, List.set_cons_succ]
        refine take_at 5 36 (v := ?_) rfl (by kernel_rfl) (by kernel_rfl) (by kernel_rfl) (by kernel_rfl) hpan (Or.inl ⟨by rfl, ?_⟩) (by assumption) ?_
        rotate_left
        · intro w hSw; (try dsimp only at hSw); go_simp; with_reducible rfl
        simp only [Act.put, List.setIfInBounds_toArray, List.set_cons_zero, List.set_cons_succ]
        refine take_at 6 37 (v := ?_) rfl (by kernel_rfl) (by kernel_rfl) (by kernel_rfl) (by kernel_rfl) hpan (Or.inl ⟨by rfl, ?_⟩) (by assumption) ?_
        rotate_left
        · intro w hSw; (try dsimp only at hSw); go_simp; with_reducible rfl
        simp only [Act.put, List.setIfInBounds_toArray, List.set_cons_zero, List.set_cons_succ]
        refine wpAnyH_ready (rs := [7]) (by kernel_rfl) (by simp) ?_
        refine AllReadyH.cons rfl (fun K hK => ?_) AllReadyH.nil
        rw [if_pos (by rfl)]
        go_simp
        obtain ⟨v2, hn2⟩ : ∃ z, z = v1.alloc (.cells #[.int .i64 0, .int .i64 0, .slice none 0 0] 32) := ⟨_, rfl⟩
        have hbx : Below v1.heap.size v1 v2 := by rw [hn2]; exact (Below.refl _ _).alloc (Nat.le_refl _) _
        have hltA : v1.heap.size < v2.heap.size := by rw [hn2]; simp
        have hBA0 : v2.heap[v1.heap.size]? = some (.cells #[.int .i64 0, .int .i64 0, .slice none 0 0] 32 (0, 0)) := by rw [hn2]; exact heap_alloc_new _ _
        rw [← hn2]
        replace hn2 := hidI hn2
        have hbv2 := hbv1.trans (hbx.mono hbv1.size)
        have hsv2 := hbx.size
        replace yx00 := (hbx.cell (p := (⟨w5'.heap.size, 0, none⟩ : Addr)) (show w5'.heap.size < v1.heap.size by omega)).trans yx00
        replace yx01 := (hbx.cell (p := (⟨w5'.heap.size, 1, none⟩ : Addr)) (show w5'.heap.size < v1.heap.size by omega)).trans yx01
        replace yx02 := (hbx.cell (p := (⟨w5'.heap.size, 2, none⟩ : Addr)) (show w5'.heap.size < v1.heap.size by omega)).trans yx02
        replace ya10 := (hbx.cell (p := (⟨w.heap.size + 1, 0, none⟩ : Addr)) (show w.heap.size + 1 < v1.heap.size by omega)).trans ya10
        replace ya11 := (hbx.cell (p := (⟨w.heap.size + 1, 1, none⟩ : Addr)) (show w.heap.size + 1 < v1.heap.size by omega)).trans ya11
        replace hx0 := hidI (hx0.out.below hbx (by omega))
        replace hrowF := hidI (hrowF.out.below hbx (by omega))
        clear hbx
        have hBA := hidI hBA0
        clear hBA0
        refine hK.out _ _ ?_ (fun hHeld => ?_)
        · try dsimp only
          ((repeat' apply And.intro) <;> assumption)
        clear hK
        try simp only [Act.put, List.setIfInBounds_toArray, List.set_cons_zero, List.set_cons_succ]
        refine wpAnyH_ready (rs := [8]) (by kernel_rfl) (by simp) ?_
        refine AllReadyH.cons rfl (fun K hK => ?_) AllReadyH.nil
        rw [if_pos (by rfl)]
        have z0 := cell_of_heap hBA.out 0
        have z1 := cell_of_heap hBA.out 1
        have z2 := cell_of_heap hBA.out 2
        have fz := fun j => frozen_of_row v2 v1.heap.size j _ _ hBA.out
        simp at z0 z1 z2
        obtain ⟨v3, hn3⟩ : ∃ z, z = ((v2.setCell ⟨v1.heap.size, 0, none⟩ (.int .i64 FR0)).setCell ⟨v1.heap.size, 1, none⟩ (.int .i64 FS0)).setCell ⟨v1.heap.size, 2, none⟩ (.slice ma F0.length mc) := ⟨_, rfl⟩
        replace yx00 : v3.cell? ⟨w5'.heap.size, 0, none⟩ = some (.int .i64 r0) := by rw [hn3, World.cell?_of_block (heap_set3 (show w5'.heap.size ≠ v1.heap.size by omega))]; exact yx00
        replace yx01 : v3.cell? ⟨w5'.heap.size, 1, none⟩ = some (.int .i64 s0) := by rw [hn3, World.cell?_of_block (heap_set3 (show w5'.heap.size ≠ v1.heap.size by omega))]; exact yx01
        replace yx02 : v3.cell? ⟨w5'.heap.size, 2, none⟩ = some (.slice x0a es0.length x0c) := by rw [hn3, World.cell?_of_block (heap_set3 (show w5'.heap.size ≠ v1.heap.size by omega))]; exact yx02
        replace ya10 : v3.cell? ⟨w.heap.size + 1, 0, none⟩ = some (.int .i64 fk1) := by rw [hn3, World.cell?_of_block (heap_set3 (show w.heap.size + 1 ≠ v1.heap.size by omega))]; exact ya10
        replace ya11 : v3.cell? ⟨w.heap.size + 1, 1, none⟩ = some (.int .i64 fd1) := by rw [hn3, World.cell?_of_block (heap_set3 (show w.heap.size + 1 ≠ v1.heap.size by omega))]; exact ya11
        have hrel : BoxRel w6' FR0 FS0 F0 v1.heap.size v0.heap.size v1.heap.size ma mc v3 := by
          rw [hn3]
          exact ⟨by omega, by rw [size_set3]; omega, set3 hBA.out _ _ _, by omega, by rw [size_set3]; omega, by omega, by omega, hrowF.out.set3_ (by omega), below_set3 hbv2 (by omega)⟩
        replace hrel := hidI hrel
        replace hn3 := hidI hn3
        go_simp
        rw [← hn3.out]
        clear z0 z1 z2 fz
        refine hK.out _ _ ?_ (fun hHeld => ?_)
        · try dsimp only
          ((repeat' apply And.intro) <;> assumption)
        clear hK
        try simp only [Act.put, List.setIfInBounds_toArray, List.set_cons_zero, List.set_cons_succ]
        refine take_at 9 10 (v := ?_) rfl (by kernel_rfl) (by kernel_rfl) (by kernel_rfl) (by kernel_rfl) hpan (Or.inl ⟨by rfl, ?_⟩) (by assumption) ?_
        rotate_left
        · intro w hSw; (try dsimp only at hSw); go_simp; with_reducible rfl
        simp only [Act.put, List.setIfInBounds_toArray, List.set_cons_zero, List.set_cons_succ]
        refine wpAnyH_done (by kernel_rfl) ?_ _
        refine hnorm _ _ ?_
        clear hnorm hpan
        repeat clear hHeld
        try simp only [Exit.then]
        go_wp2_with fail
        go_meet
        exact ⟨_, _, _, _, _, rfl, rfl, hrel.out⟩
      refine AllReadyH.cons rfl (fun K hK => ?_) AllReadyH.nil
      rw [if_pos (by rfl)]
      go_simp
      obtain ⟨v1, hn1⟩ : ∃ z, z = v0.alloc (.cells #[.int .i64 0, .int .i64 0, .slice none 0 0] 32) := ⟨_, rfl⟩
      have hbx : Below v0.heap.size v0 v1 := by rw [hn1]; exact (Below.refl _ _).alloc (Nat.le_refl _) _
      have hltA : v0.heap.size < v1.heap.size := by rw [hn1]; simp
      have hBA0 : v1.heap[v0.heap.size]? = some (.cells #[.int .i64 0, .int .i64 0, .slice none 0 0] 32 (0, 0)) := by rw [hn1]; exact heap_alloc_new _ _
      rw [← hn1]
      replace hn1 := hidI hn1
      have hbv1 := hbv0.trans (hbx.mono hbv0.size)
      have hsv1 := hbx.size
      replace yx00 := (hbx.cell (p := (⟨w5'.heap.size, 0, none⟩ : Addr)) (show w5'.heap.size < v0.heap.size by omega)).trans yx00
      replace yx01 := (hbx.cell (p := (⟨w5'.heap.size, 1, none⟩ : Addr)) (show w5'.heap.size < v0.heap.size by omega)).trans yx01
      replace yx02 := (hbx.cell (p := (⟨w5'.heap.size, 2, none⟩ : Addr)) (show w5'.heap.size < v0.heap.size by omega)).trans yx02
      replace ya10 := (hbx.cell (p := (⟨w.heap.size + 1, 0, none⟩ : Addr)) (show w.heap.size + 1 < v0.heap.size by omega)).trans ya10
      replace ya11 := (hbx.cell (p := (⟨w.heap.size + 1, 1, none⟩ : Addr)) (show w.heap.size + 1 < v0.heap.size by omega)).trans ya11
      replace hx0 := hidI (hx0.out.below hbx (by omega))
      clear hbx
      have hBA := hidI hBA0
      clear hBA0
      refine hK.out _ _ ?_ (fun hHeld => ?_)
      · try dsimp only
        ((repeat' apply And.intro) <;> assumption)
      clear hK
      try simp only [Act.put, List.setIfInBounds_toArray, List.set_cons_zero, List.set_cons_succ]
      refine wpAnyH_ready (rs := [3]) (by kernel_rfl) (by simp) ?_
      refine AllReadyH.cons rfl (fun K hK => ?_) AllReadyH.nil
      rw [if_pos (by rfl)]
      go_simp
      go_at_call 17
      (with_reducible refine (progMerge v1 r0 s0 fk1 fd1 _ es0 (hx0.out.read.mono (by omega)) (by omega)).mono ?_)
      intro e v2 hpost
      rw [← hF0.out, ← hFS0.out, ← hF1.out, ← hFR0.out] at hpost
      obtain ⟨ma, mc, rfl, hrow0, hbx⟩ := hpost
      have hbv2 := hbv1.trans (hbx.mono hbv1.size)
      have hsv2 := hbx.size
      replace yx00 := (hbx.cell (p := (⟨w5'.heap.size, 0, none⟩ : Addr)) (show w5'.heap.size < v1.heap.size by omega)).trans yx00
      replace yx01 := (hbx.cell (p := (⟨w5'.heap.size, 1, none⟩ : Addr)) (show w5'.heap.size < v1.heap.size by omega)).trans yx01
      replace yx02 := (hbx.cell (p := (⟨w5'.heap.size, 2, none⟩ : Addr)) (show w5'.heap.size < v1.heap.size by omega)).trans yx02
      replace ya10 := (hbx.cell (p := (⟨w.heap.size + 1, 0, none⟩ : Addr)) (show w.heap.size + 1 < v1.heap.size by omega)).trans ya10
      replace ya11 := (hbx.cell (p := (⟨w.heap.size + 1, 1, none⟩ : Addr)) (show w.heap.size + 1 < v1.heap.size by omega)).trans ya11
      replace hx0 := hidI (hx0.out.below hbx (by omega))
      replace hBA := hidI ((hbx.block _ (by omega)).trans hBA.out)
      clear hbx
      have hrowF := hidI hrow0
      clear hrow0
      refine hK.out _ _ ?_ (fun hHeld => ?_)
      · try dsimp only
        ((repeat' apply And.intro) <;> assumption)
      clear hK
      try simp only [Act.put, List.setIfInBounds_toArray, List.set_cons_zero, List.set_cons_succ]
      refine take_at 4 31 (v := ?_) rfl (by kernel_rfl) (by kernel_rfl) (by kernel_rfl) (by kernel_rfl) hpan (Or.inl ⟨by rfl, ?_⟩) (by assumption) ?_
      rotate_left
      · intro w hSw; (try dsimp only at hSw); go_simp; with_reducible rfl
      simp only [Act.put, List.setIfInBounds_toArray, List.set_cons_zero, List.set_cons_succ]
      refine take_at 5 36 (v := ?_) rfl (by kernel_rfl) (by kernel_rfl) (by kernel_rfl) (by kernel_rfl) hpan (Or.inl ⟨by rfl, ?_⟩) (by assumption) ?_
      rotate_left
      · intro w hSw; (try dsimp only at hSw); go_simp; with_reducible rfl
      simp only [Act.put, List.setIfInBounds_toArray, List.set_cons_zero, List.set_cons_succ]
      refine take_at 6 37 (v := ?_) rfl (by kernel_rfl) (by kernel_rfl) (by kernel_rfl) (by kernel_rfl) hpan (Or.inl ⟨by rfl, ?_⟩) (by assumption) ?_
      rotate_left
      · intro w hSw; (try dsimp only at hSw); go_simp; with_reducible rfl
      simp only [Act.put, List.setIfInBounds_toArray, List.set_cons_zero, List.set_cons_succ]
      refine wpAnyH_ready (rs := [8]) (by kernel_rfl) (by simp) ?_
      refine AllReadyH.cons rfl (fun K hK => ?_) AllReadyH.nil
      rw [if_pos (by rfl)]
      have z0 := cell_of_heap hBA.out 0
      have z1 := cell_of_heap hBA.out 1
      have z2 := cell_of_heap hBA.out 2
      have fz := fun j => frozen_of_row v2 v0.heap.size j _ _ hBA.out
      simp at z0 z1 z2
      obtain ⟨v3, hn3⟩ : ∃ z, z = ((v2.setCell ⟨v0.heap.size, 0, none⟩ (.int .i64 FR0)).setCell ⟨v0.heap.size, 1, none⟩ (.int .i64 FS0)).setCell ⟨v0.heap.size, 2, none⟩ (.slice ma F0.length mc) := ⟨_, rfl⟩
      replace yx00 : v3.cell? ⟨w5'.heap.size, 0, none⟩ = some (.int .i64 r0) := by rw [hn3, World.cell?_of_block (heap_set3 (show w5'.heap.size ≠ v0.heap.size by omega))]; exact yx00
      replace yx01 : v3.cell? ⟨w5'.heap.size, 1, none⟩ = some (.int .i64 s0) := by rw [hn3, World.cell?_of_block (heap_set3 (show w5'.heap.size ≠ v0.heap.size by omega))]; exact yx01
      replace yx02 : v3.cell? ⟨w5'.heap.size, 2, none⟩ = some (.slice x0a es0.length x0c) := by rw [hn3, World.cell?_of_block (heap_set3 (show w5'.heap.size ≠ v0.heap.size by omega))]; exact yx02
      replace ya10 : v3.cell? ⟨w.heap.size + 1, 0, none⟩ = some (.int .i64 fk1) := by rw [hn3, World.cell?_of_block (heap_set3 (show w.heap.size + 1 ≠ v0.heap.size by omega))]; exact ya10
      replace ya11 : v3.cell? ⟨w.heap.size + 1, 1, none⟩ = some (.int .i64 fd1) := by rw [hn3, World.cell?_of_block (heap_set3 (show w.heap.size + 1 ≠ v0.heap.size by omega))]; exact ya11
      have hrel : BoxRel w6' FR0 FS0 F0 v0.heap.size v1.heap.size v2.heap.size ma mc v3 := by
        rw [hn3]
        exact ⟨by omega, by rw [size_set3]; omega, set3 hBA.out _ _ _, by omega, by rw [size_set3]; omega, by omega, by omega, hrowF.out.set3_ (by omega), below_set3 hbv2 (by omega)⟩
      replace hrel := hidI hrel
      replace hn3 := hidI hn3
      go_simp
      rw [← hn3.out]
      clear z0 z1 z2 fz
      refine hK.out _ _ ?_ (fun hHeld => ?_)
      · try dsimp only
        ((repeat' apply And.intro) <;> assumption)
      clear hK
      try simp only [Act.put, List.setIfInBounds_toArray, List.set_cons_zero, List.set_cons_succ]
      refine take_at 9 10 (v := ?_) rfl (by kernel_rfl) (by kernel_rfl) (by kernel_rfl) (by kernel_rfl) hpan (Or.inl ⟨by rfl, ?_⟩) (by assumption) ?_
      rotate_left
      · intro w hSw; (try dsimp only at hSw); go_simp; with_reducible rfl
      simp only [Act.put, List.setIfInBounds_toArray, List.set_cons_zero, List.set_cons_succ]
      refine wpAnyH_done (by kernel_rfl) ?_ _
      refine hnorm _ _ ?_
      clear hnorm hpan
      repeat clear hHeld
      try simp only [Exit.then]
      go_wp2_with fail
      go_meet
      exact ⟨_, _, _, _, _, rfl, rfl, hrel.out⟩
    refine AllReadyH.cons rfl (fun K hK => ?_) AllReadyH.nil
    rw [if_pos (by rfl)]
    go_simp
    obtain ⟨v0, hn0⟩ : ∃ z, z = wd.alloc (.cells #[.int .i64 0, .int .i64 0, .slice none 0 0] 32) := ⟨_, rfl⟩
    have hbx : Below wd.heap.size wd v0 := by rw [hn0]; exact (Below.refl _ _).alloc (Nat.le_refl _) _
    have hltA : wd.heap.size < v0.heap.size := by rw [hn0]; simp
    have hBA0 : v0.heap[wd.heap.size]? = some (.cells #[.int .i64 0, .int .i64 0, .slice none 0 0] 32 (0, 0)) := by rw [hn0]; exact heap_alloc_new _ _
    rw [← hn0]
    replace hn0 := hidI hn0
    have hbv0 := hbwd.trans (hbx.mono hbwd.size)
    have hsv0 := hbx.size
    replace yx00 := (hbx.cell (p := (⟨w5'.heap.size, 0, none⟩ : Addr)) (show w5'.heap.size < wd.heap.size by omega)).trans yx00
    replace yx01 := (hbx.cell (p := (⟨w5'.heap.size, 1, none⟩ : Addr)) (show w5'.heap.size < wd.heap.size by omega)).trans yx01
    replace yx02 := (hbx.cell (p := (⟨w5'.heap.size, 2, none⟩ : Addr)) (show w5'.heap.size < wd.heap.size by omega)).trans yx02
    replace ya10 := (hbx.cell (p := (⟨w.heap.size + 1, 0, none⟩ : Addr)) (show w.heap.size + 1 < wd.heap.size by omega)).trans ya10
    replace ya11 := (hbx.cell (p := (⟨w.heap.size + 1, 1, none⟩ : Addr)) (show w.heap.size + 1 < wd.heap.size by omega)).trans ya11
    replace hx0 := hidI (hx0.out.below hbx (by omega))
    clear hbx
    have hBA := hidI hBA0
    clear hBA0
    refine hK.out _ _ ?_ (fun hHeld => ?_)
    · try dsimp only
      ((repeat' apply And.intro) <;> assumption)
    clear hK
    try simp only [Act.put, List.setIfInBounds_toArray, List.set_cons_zero, List.set_cons_succ]
    refine wpAnyH_ready (rs := [2]) (by kernel_rfl) (by simp) ?_
    refine AllReadyH.cons rfl (fun K hK => ?_) AllReadyH.nil
    rw [if_pos (by rfl)]
    go_simp
    go_at_call 16
    (with_reducible refine (toFold_any v0 fk1 fd1).mono ?_)
    rintro e v1 ⟨rfl, hbx⟩
    have hbv1 := hbv0.trans (hbx.mono hbv0.size)
    have hsv1 := hbx.size
    replace yx00 := (hbx.cell (p := (⟨w5'.heap.size, 0, none⟩ : Addr)) (show w5'.heap.size < v0.heap.size by omega)).trans yx00
    replace yx01 := (hbx.cell (p := (⟨w5'.heap.size, 1, none⟩ : Addr)) (show w5'.heap.size < v0.heap.size by omega)).trans yx01
    replace yx02 := (hbx.cell (p := (⟨w5'.heap.size, 2, none⟩ : Addr)) (show w5'.heap.size < v0.heap.size by omega)).trans yx02
    replace ya10 := (hbx.cell (p := (⟨w.heap.size + 1, 0, none⟩ : Addr)) (show w.heap.size + 1 < v0.heap.size by omega)).trans ya10
    replace ya11 := (hbx.cell (p := (⟨w.heap.size + 1, 1, none⟩ : Addr)) (show w.heap.size + 1 < v0.heap.size by omega)).trans ya11
    replace hx0 := hidI (hx0.out.below hbx (by omega))
    replace hBA := hidI ((hbx.block _ (by omega)).trans hBA.out)
    clear hbx
    refine hK.out _ _ ?_ (fun hHeld => ?_)
    · try dsimp only
      ((repeat' apply And.intro) <;> assumption)
    clear hK
    try simp only [Act.put, List.setIfInBounds_toArray, List.set_cons_zero, List.set_cons_succ]
    refine wpAnyH_ready (rs := [3]) (by kernel_rfl) (by simp) ?_
    refine AllReadyH.cons rfl (fun K hK => ?_) AllReadyH.nil
    rw [if_pos (by rfl)]
    go_simp
    go_at_call 17
    (with_reducible refine (progMerge v1 r0 s0 fk1 fd1 _ es0 (hx0.out.read.mono (by omega)) (by omega)).mono ?_)
    intro e v2 hpost
    rw [← hF0.out, ← hFS0.out, ← hF1.out, ← hFR0.out] at hpost
    obtain ⟨ma, mc, rfl, hrow0, hbx⟩ := hpost
    have hbv2 := hbv1.trans (hbx.mono hbv1.size)
    have hsv2 := hbx.size
    replace yx00 := (hbx.cell (p := (⟨w5'.heap.size, 0, none⟩ : Addr)) (show w5'.heap.size < v1.heap.size by omega)).trans yx00
    replace yx01 := (hbx.cell (p := (⟨w5'.heap.size, 1, none⟩ : Addr)) (show w5'.heap.size < v1.heap.size by omega)).trans yx01
    replace yx02 := (hbx.cell (p := (⟨w5'.heap.size, 2, none⟩ : Addr)) (show w5'.heap.size < v1.heap.size by omega)).trans yx02
    replace ya10 := (hbx.cell (p := (⟨w.heap.size + 1, 0, none⟩ : Addr)) (show w.heap.size + 1 < v1.heap.size by omega)).trans ya10
    replace ya11 := (hbx.cell (p := (⟨w.heap.size + 1, 1, none⟩ : Addr)) (show w.heap.size + 1 < v1.heap.size by omega)).trans ya11
    replace hx0 := hidI (hx0.out.below hbx (by omega))
    replace hBA := hidI ((hbx.block _ (by omega)).trans hBA.out)
    clear hbx
    have hrowF := hidI hrow0
    clear hrow0
    refine hK.out _ _ ?_ (fun hHeld => ?_)
    · try dsimp only
      ((repeat' apply And.intro) <;> assumption)
    clear hK
    try simp only [Act.put, List.setIfInBounds_toArray, List.set_cons_zero, List.set_cons_succ]
    refine take_at 4 31 (v := ?_) rfl (by kernel_rfl) (by kernel_rfl) (by kernel_rfl) (by kernel_rfl) hpan (Or.inl ⟨by rfl, ?_⟩) (by assumption) ?_
    rotate_left
    · intro w hSw; (try dsimp only at hSw); go_simp; with_reducible rfl
    simp only [Act.put, List.setIfInBounds_toArray, List.set_cons_zero, List.set_cons_succ]
    refine take_at 5 36 (v := ?_) rfl (by kernel_rfl) (by kernel_rfl) (by kernel_rfl) (by kernel_rfl) hpan (Or.inl ⟨by rfl, ?_⟩) (by assumption) ?_
    rotate_left
    · intro w hSw; (try dsimp only at hSw); go_simp; with_reducible rfl
    simp only [Act.put, List.setIfInBounds_toArray, List.set_cons_zero, List.set_cons_succ]
    refine take_at 6 37 (v := ?_) rfl (by kernel_rfl) (by kernel_rfl) (by kernel_rfl) (by kernel_rfl) hpan (Or.inl ⟨by rfl, ?_⟩) (by assumption) ?_
    rotate_left
    · intro w hSw; (try dsimp only at hSw); go_simp; with_reducible rfl
    simp only [Act.put, List.setIfInBounds_toArray, List.set_cons_zero, List.set_cons_succ]
    refine wpAnyH_ready (rs := [8]) (by kernel_rfl) (by simp) ?_
    refine AllReadyH.cons rfl (fun K hK => ?_) AllReadyH.nil
    rw [if_pos (by rfl)]
    have z0 := cell_of_heap hBA.out 0
    have z1 := cell_of_heap hBA.out 1
    have z2 := cell_of_heap hBA.out 2
    have fz := fun j => frozen_of_row v2 wd.heap.size j _ _ hBA.out
    simp at z0 z1 z2
    obtain ⟨v3, hn3⟩ : ∃ z, z = ((v2.setCell ⟨wd.heap.size, 0, none⟩ (.int .i64 FR0)).setCell ⟨wd.heap.size, 1, none⟩ (.int .i64 FS0)).setCell ⟨wd.heap.size, 2, none⟩ (.slice ma F0.length mc) := ⟨_, rfl⟩
    replace yx00 : v3.cell? ⟨w5'.heap.size, 0, none⟩ = some (.int .i64 r0) := by rw [hn3, World.cell?_of_block (heap_set3 (show w5'.heap.size ≠ wd.heap.size by omega))]; exact yx00
    replace yx01 : v3.cell? ⟨w5'.heap.size, 1, none⟩ = some (.int .i64 s0) := by rw [hn3, World.cell?_of_block (heap_set3 (show w5'.heap.size ≠ wd.heap.size by omega))]; exact yx01
    replace yx02 : v3.cell? ⟨w5'.heap.size, 2, none⟩ = some (.slice x0a es0.length x0c) := by rw [hn3, World.cell?_of_block (heap_set3 (show w5'.heap.size ≠ wd.heap.size by omega))]; exact yx02
    replace ya10 : v3.cell? ⟨w.heap.size + 1, 0, none⟩ = some (.int .i64 fk1) := by rw [hn3, World.cell?_of_block (heap_set3 (show w.heap.size + 1 ≠ wd.heap.size by omega))]; exact ya10
    replace ya11 : v3.cell? ⟨w.heap.size + 1, 1, none⟩ = some (.int .i64 fd1) := by rw [hn3, World.cell?_of_block (heap_set3 (show w.heap.size + 1 ≠ wd.heap.size by omega))]; exact ya11
    have hrel : BoxRel w6' FR0 FS0 F0 wd.heap.size v1.heap.size v2.heap.size ma mc v3 := by
      rw [hn3]
      exact ⟨by omega, by rw [size_set3]; omega, set3 hBA.out _ _ _, by omega, by rw [size_set3]; omega, by omega, by omega, hrowF.out.set3_ (by omega), below_set3 hbv2 (by omega)⟩
    replace hrel := hidI hrel
    replace hn3 := hidI hn3
    go_simp
    rw [← hn3.out]
    clear z0 z1 z2 fz
    refine hK.out _ _ ?_ (fun hHeld => ?_)
    · try dsimp only
      ((repeat' apply And.intro) <;> assumption)
    clear hK
    try simp only [Act.put, List.setIfInBounds_toArray, List.set_cons_zero, List.set_cons_succ]
    refine take_at 9 10 (v := ?_) rfl (by kernel_rfl) (by kernel_rfl) (by kernel_rfl) (by kernel_rfl) hpan (Or.inl ⟨by rfl, ?_⟩) (by assumption) ?_
    rotate_left
    · intro w hSw; (try dsimp only at hSw); go_simp; with_reducible rfl
    simp only [Act.put, List.setIfInBounds_toArray, List.set_cons_zero, List.set_cons_succ]
    refine wpAnyH_done (by kernel_rfl) ?_ _
    refine hnorm _ _ ?_
    clear hnorm hpan
    repeat clear hHeld
    try simp only [Exit.then]
    go_wp2_with fail
    go_meet
    exact ⟨_, _, _, _, _, rfl, rfl, hrel.out⟩
  obtain ⟨w7', rfl⟩ : ∃ z, z = wc := ⟨_, rfl⟩
  obtain ⟨g0B, g0lo, g0hi, g0a, g0c, rfl, rfl, hqg01, hqg02, hqg03, hqg04, hqg05, hqg06, hqg07, hrow0, hbn⟩ := hcut
  clear hwd hdr hbwd hswd yx00 yx01 yx02 ya10 ya11
  have hb7 := hb6.trans (hbn.mono hb6.size)
  have hs7 := hbn.size
  replace hm0 := hidI (hm0.out.below hbn (by omega))
  replace hx0 := hidI (hx0.out.below hbn (by omega))
  replace ca00 := (hbn.cell (p := (⟨w.heap.size, 0, none⟩ : Addr)) (show w.heap.size < w6'.heap.size by omega)).trans ca00
  replace ca01 := (hbn.cell (p := (⟨w.heap.size, 1, none⟩ : Addr)) (show w.heap.size < w6'.heap.size by omega)).trans ca01
  replace ca02 := (hbn.cell (p := (⟨w.heap.size, 2, none⟩ : Addr)) (show w.heap.size < w6'.heap.size by omega)).trans ca02
  replace ca10 := (hbn.cell (p := (⟨w.heap.size + 1, 0, none⟩ : Addr)) (show w.heap.size + 1 < w6'.heap.size by omega)).trans ca10
  replace ca11 := (hbn.cell (p := (⟨w.heap.size + 1, 1, none⟩ : Addr)) (show w.heap.size + 1 < w6'.heap.size by omega)).trans ca11
  replace cm00 := (hbn.cell (p := (⟨m0B, 0, none⟩ : Addr)) (show m0B < w6'.heap.size by omega)).trans cm00
  replace cm01 := (hbn.cell (p := (⟨m0B, 1, none⟩ : Addr)) (show m0B < w6'.heap.size by omega)).trans cm01
  replace cm02 := (hbn.cell (p := (⟨m0B, 2, none⟩ : Addr)) (show m0B < w6'.heap.size by omega)).trans cm02
  replace cx00 := (hbn.cell (p := (⟨w5'.heap.size, 0, none⟩ : Addr)) (show w5'.heap.size < w6'.heap.size by omega)).trans cx00
  replace cx01 := (hbn.cell (p := (⟨w5'.heap.size, 1, none⟩ : Addr)) (show w5'.heap.size < w6'.heap.size by omega)).trans cx01
  replace cx02 := (hbn.cell (p := (⟨w5'.heap.size, 2, none⟩ : Addr)) (show w5'.heap.size < w6'.heap.size by omega)).trans cx02
  clear hbn
  have hg0 := hidI hrow0
  clear hrow0
  have cg00 : w7'.cell? ⟨g0B, 0, none⟩ = some (.int .i64 FR0) := by simpa using cell_of_heap hqg03 0
  have cg01 : w7'.cell? ⟨g0B, 1, none⟩ = some (.int .i64 FS0) := by simpa using cell_of_heap hqg03 1
  have cg02 : w7'.cell? ⟨g0B, 2, none⟩ = some (.slice g0a F0.length g0c) := by simpa using cell_of_heap hqg03 2
  clear hqg03
  go_wp2_with fail
  refine (eqGraph_same w7' FR0 FS0 _ _ F0.length (flatE F0) (hg0.out.read.mono (by omega)) (hm0.out.read.mono (by omega))).mono ?_
  rintro e w8' ⟨rfl, hbn⟩
  have hb8 := hb7.trans (hbn.mono hb7.size)
  have hs8 := hbn.size
  replace hm0 := hidI (hm0.out.below hbn (by omega))
  replace hx0 := hidI (hx0.out.below hbn (by omega))
  replace hg0 := hidI (hg0.out.below hbn (by omega))
  replace ca00 := (hbn.cell (p := (⟨w.heap.size, 0, none⟩ : Addr)) (show w.heap.size < w7'.heap.size by omega)).trans ca00
  replace ca01 := (hbn.cell (p := (⟨w.heap.size, 1, none⟩ : Addr)) (show w.heap.size < w7'.heap.size by omega)).trans ca01
  replace ca02 := (hbn.cell (p := (⟨w.heap.size, 2, none⟩ : Addr)) (show w.heap.size < w7'.heap.size by omega)).trans ca02
  replace ca10 := (hbn.cell (p := (⟨w.heap.size + 1, 0, none⟩ : Addr)) (show w.heap.size + 1 < w7'.heap.size by omega)).trans ca10
  replace ca11 := (hbn.cell (p := (⟨w.heap.size + 1, 1, none⟩ : Addr)) (show w.heap.size + 1 < w7'.heap.size by omega)).trans ca11
  replace cm00 := (hbn.cell (p := (⟨m0B, 0, none⟩ : Addr)) (show m0B < w7'.heap.size by omega)).trans cm00
  replace cm01 := (hbn.cell (p := (⟨m0B, 1, none⟩ : Addr)) (show m0B < w7'.heap.size by omega)).trans cm01
  replace cm02 := (hbn.cell (p := (⟨m0B, 2, none⟩ : Addr)) (show m0B < w7'.heap.size by omega)).trans cm02
  replace cx00 := (hbn.cell (p := (⟨w5'.heap.size, 0, none⟩ : Addr)) (show w5'.heap.size < w7'.heap.size by omega)).trans cx00
  replace cx01 := (hbn.cell (p := (⟨w5'.heap.size, 1, none⟩ : Addr)) (show w5'.heap.size < w7'.heap.size by omega)).trans cx01
  replace cx02 := (hbn.cell (p := (⟨w5'.heap.size, 2, none⟩ : Addr)) (show w5'.heap.size < w7'.heap.size by omega)).trans cx02
  replace cg00 := (hbn.cell (p := (⟨g0B, 0, none⟩ : Addr)) (show g0B < w7'.heap.size by omega)).trans cg00
  replace cg01 := (hbn.cell (p := (⟨g0B, 1, none⟩ : Addr)) (show g0B < w7'.heap.size by omega)).trans cg01
  replace cg02 := (hbn.cell (p := (⟨g0B, 2, none⟩ : Addr)) (show g0B < w7'.heap.size by omega)).trans cg02
  clear hbn
  go_wp2_with fail
  have hdr := below_dn (Below.refl w8'.heap.size w8') 1
  have hcg := toGraph_any w8'.drew r0 s0 _ es0.length (flatE es0) (((hr0.out.below hb8).below (hdr.mono hb8.size)).mono hb8.size) (by omega)
  go_region_held3 (fun z => z.cell? ⟨w5'.heap.size, 0, none⟩ = some (.int .i64 r0) ∧ z.cell? ⟨w5'.heap.size, 1, none⟩ = some (.int .i64 s0) ∧ z.cell? ⟨w5'.heap.size, 2, none⟩ = some (.slice x0a es0.length x0c) ∧ z.cell? ⟨w.heap.size, 0, none⟩ = some (.int .i64 r0) ∧ z.cell? ⟨w.heap.size, 1, none⟩ = some (.int .i64 s0) ∧ z.cell? ⟨w.heap.size, 2, none⟩ = some (.slice ad0 es0.length cap0)) (first | ((repeat' apply And.intro) <;> assumption) | go_keep) (first | (go_at_call 11; (with_reducible refine hcg.mono ?_); rintro e w9' ⟨ta, tc, rfl, hrow, hbn⟩; replace hbn := hdr.trans hbn; have hb9 := hb8.trans (hbn.mono hb8.size); have hs9 := hbn.size; replace hm0 := hidI (hm0.out.below hbn (by omega)); replace hx0 := hidI (hx0.out.below hbn (by omega)); replace hg0 := hidI (hg0.out.below hbn (by omega)); replace ca00 := (hbn.cell (p := (⟨w.heap.size, 0, none⟩ : Addr)) (show w.heap.size < w8'.heap.size by omega)).trans ca00; replace ca01 := (hbn.cell (p := (⟨w.heap.size, 1, none⟩ : Addr)) (show w.heap.size < w8'.heap.size by omega)).trans ca01; replace ca02 := (hbn.cell (p := (⟨w.heap.size, 2, none⟩ : Addr)) (show w.heap.size < w8'.heap.size by omega)).trans ca02; replace ca10 := (hbn.cell (p := (⟨w.heap.size + 1, 0, none⟩ : Addr)) (show w.heap.size + 1 < w8'.heap.size by omega)).trans ca10; replace ca11 := (hbn.cell (p := (⟨w.heap.size + 1, 1, none⟩ : Addr)) (show w.heap.size + 1 < w8'.heap.size by omega)).trans ca11; replace cm00 := (hbn.cell (p := (⟨m0B, 0, none⟩ : Addr)) (show m0B < w8'.heap.size by omega)).trans cm00; replace cm01 := (hbn.cell (p := (⟨m0B, 1, none⟩ : Addr)) (show m0B < w8'.heap.size by omega)).trans cm01; replace cm02 := (hbn.cell (p := (⟨m0B, 2, none⟩ : Addr)) (show m0B < w8'.heap.size by omega)).trans cm02; replace cx00 := (hbn.cell (p := (⟨w5'.heap.size, 0, none⟩ : Addr)) (show w5'.heap.size < w8'.heap.size by omega)).trans cx00; replace cx01 := (hbn.cell (p := (⟨w5'.heap.size, 1, none⟩ : Addr)) (show w5'.heap.size < w8'.heap.size by omega)).trans cx01; replace cx02 := (hbn.cell (p := (⟨w5'.heap.size, 2, none⟩ : Addr)) (show w5'.heap.size < w8'.heap.size by omega)).trans cx02; replace cg00 := (hbn.cell (p := (⟨g0B, 0, none⟩ : Addr)) (show g0B < w8'.heap.size by omega)).trans cg00; replace cg01 := (hbn.cell (p := (⟨g0B, 1, none⟩ : Addr)) (show g0B < w8'.heap.size by omega)).trans cg01; replace cg02 := (hbn.cell (p := (⟨g0B, 2, none⟩ : Addr)) (show g0B < w8'.heap.size by omega)).trans cg02; have hce := eqGraph_same w9' r0 s0 _ _ es0.length (flatE es0) (hx0.out.read.mono (by omega)) (hrow.read.mono (by omega)); clear hbn hcg) | (go_at_call 14; (with_reducible refine hce.mono ?_); rintro e w10' ⟨rfl, hbn⟩; have hb10 := hb9.trans (hbn.mono hb9.size); have hs10 := hbn.size; replace hm0 := hidI (hm0.out.below hbn (by omega)); replace hx0 := hidI (hx0.out.below hbn (by omega)); replace hg0 := hidI (hg0.out.below hbn (by omega)); replace ca00 := (hbn.cell (p := (⟨w.heap.size, 0, none⟩ : Addr)) (show w.heap.size < w9'.heap.size by omega)).trans ca00; replace ca01 := (hbn.cell (p := (⟨w.heap.size, 1, none⟩ : Addr)) (show w.heap.size < w9'.heap.size by omega)).trans ca01; replace ca02 := (hbn.cell (p := (⟨w.heap.size, 2, none⟩ : Addr)) (show w.heap.size < w9'.heap.size by omega)).trans ca02; replace ca10 := (hbn.cell (p := (⟨w.heap.size + 1, 0, none⟩ : Addr)) (show w.heap.size + 1 < w9'.heap.size by omega)).trans ca10; replace ca11 := (hbn.cell (p := (⟨w.heap.size + 1, 1, none⟩ : Addr)) (show w.heap.size + 1 < w9'.heap.size by omega)).trans ca11; replace cm00 := (hbn.cell (p := (⟨m0B, 0, none⟩ : Addr)) (show m0B < w9'.heap.size by omega)).trans cm00; replace cm01 := (hbn.cell (p := (⟨m0B, 1, none⟩ : Addr)) (show m0B < w9'.heap.size by omega)).trans cm01; replace cm02 := (hbn.cell (p := (⟨m0B, 2, none⟩ : Addr)) (show m0B < w9'.heap.size by omega)).trans cm02; replace cx00 := (hbn.cell (p := (⟨w5'.heap.size, 0, none⟩ : Addr)) (show w5'.heap.size < w9'.heap.size by omega)).trans cx00; replace cx01 := (hbn.cell (p := (⟨w5'.heap.size, 1, none⟩ : Addr)) (show w5'.heap.size < w9'.heap.size by omega)).trans cx01; replace cx02 := (hbn.cell (p := (⟨w5'.heap.size, 2, none⟩ : Addr)) (show w5'.heap.size < w9'.heap.size by omega)).trans cx02; replace cg00 := (hbn.cell (p := (⟨g0B, 0, none⟩ : Addr)) (show g0B < w9'.heap.size by omega)).trans cg00; replace cg01 := (hbn.cell (p := (⟨g0B, 1, none⟩ : Addr)) (show g0B < w9'.heap.size by omega)).trans cg01; replace cg02 := (hbn.cell (p := (⟨g0B, 2, none⟩ : Addr)) (show g0B < w9'.heap.size by omega)).trans cg02; clear hbn hce hrow))
  go_wp2_with fail
  refine (markGraph_any w10' (w4'.heap.size) (w5'.heap.size) r0 s0 _ es0.length (flatE es0) 1 hx0.out (by omega) (by omega) (by omega) (by omega)).mono ?_
  rintro e w11' ⟨rfl, hm, wm, hbn, ho⟩
  have hbm11 := hb10.trans (hbn.mono hb10.size)
  have hsm11 := hbn.size
  replace hm0 := hidI ((hm0.out.below hbn (by omega)).only ho (by omega))
  replace hg0 := hidI ((hg0.out.below hbn (by omega)).only ho (by omega))
  replace ca00 := (ho.cell (p := (⟨w.heap.size, 0, none⟩ : Addr)) (show w.heap.size < w4'.heap.size ∨ w5'.heap.size ≤ w.heap.size by omega)).trans ((hbn.cell (p := (⟨w.heap.size, 0, none⟩ : Addr)) (show w.heap.size < w10'.heap.size by omega)).trans ca00)
  replace ca01 := (ho.cell (p := (⟨w.heap.size, 1, none⟩ : Addr)) (show w.heap.size < w4'.heap.size ∨ w5'.heap.size ≤ w.heap.size by omega)).trans ((hbn.cell (p := (⟨w.heap.size, 1, none⟩ : Addr)) (show w.heap.size < w10'.heap.size by omega)).trans ca01)
  replace ca02 := (ho.cell (p := (⟨w.heap.size, 2, none⟩ : Addr)) (show w.heap.size < w4'.heap.size ∨ w5'.heap.size ≤ w.heap.size by omega)).trans ((hbn.cell (p := (⟨w.heap.size, 2, none⟩ : Addr)) (show w.heap.size < w10'.heap.size by omega)).trans ca02)
  replace ca10 := (ho.cell (p := (⟨w.heap.size + 1, 0, none⟩ : Addr)) (show w.heap.size + 1 < w4'.heap.size ∨ w5'.heap.size ≤ w.heap.size + 1 by omega)).trans ((hbn.cell (p := (⟨w.heap.size + 1, 0, none⟩ : Addr)) (show w.heap.size + 1 < w10'.heap.size by omega)).trans ca10)
  replace ca11 := (ho.cell (p := (⟨w.heap.size + 1, 1, none⟩ : Addr)) (show w.heap.size + 1 < w4'.heap.size ∨ w5'.heap.size ≤ w.heap.size + 1 by omega)).trans ((hbn.cell (p := (⟨w.heap.size + 1, 1, none⟩ : Addr)) (show w.heap.size + 1 < w10'.heap.size by omega)).trans ca11)
  replace cm00 := (ho.cell (p := (⟨m0B, 0, none⟩ : Addr)) (show m0B < w4'.heap.size ∨ w5'.heap.size ≤ m0B by omega)).trans ((hbn.cell (p := (⟨m0B, 0, none⟩ : Addr)) (show m0B < w10'.heap.size by omega)).trans cm00)
  replace cm01 := (ho.cell (p := (⟨m0B, 1, none⟩ : Addr)) (show m0B < w4'.heap.size ∨ w5'.heap.size ≤ m0B by omega)).trans ((hbn.cell (p := (⟨m0B, 1, none⟩ : Addr)) (show m0B < w10'.heap.size by omega)).trans cm01)
  replace cm02 := (ho.cell (p := (⟨m0B, 2, none⟩ : Addr)) (show m0B < w4'.heap.size ∨ w5'.heap.size ≤ m0B by omega)).trans ((hbn.cell (p := (⟨m0B, 2, none⟩ : Addr)) (show m0B < w10'.heap.size by omega)).trans cm02)
  replace cx00 := (ho.cell (p := (⟨w5'.heap.size, 0, none⟩ : Addr)) (show w5'.heap.size < w4'.heap.size ∨ w5'.heap.size ≤ w5'.heap.size by omega)).trans ((hbn.cell (p := (⟨w5'.heap.size, 0, none⟩ : Addr)) (show w5'.heap.size < w10'.heap.size by omega)).trans cx00)
  replace cx01 := (ho.cell (p := (⟨w5'.heap.size, 1, none⟩ : Addr)) (show w5'.heap.size < w4'.heap.size ∨ w5'.heap.size ≤ w5'.heap.size by omega)).trans ((hbn.cell (p := (⟨w5'.heap.size, 1, none⟩ : Addr)) (show w5'.heap.size < w10'.heap.size by omega)).trans cx01)
  replace cx02 := (ho.cell (p := (⟨w5'.heap.size, 2, none⟩ : Addr)) (show w5'.heap.size < w4'.heap.size ∨ w5'.heap.size ≤ w5'.heap.size by omega)).trans ((hbn.cell (p := (⟨w5'.heap.size, 2, none⟩ : Addr)) (show w5'.heap.size < w10'.heap.size by omega)).trans cx02)
  replace cg00 := (ho.cell (p := (⟨g0B, 0, none⟩ : Addr)) (show g0B < w4'.heap.size ∨ w5'.heap.size ≤ g0B by omega)).trans ((hbn.cell (p := (⟨g0B, 0, none⟩ : Addr)) (show g0B < w10'.heap.size by omega)).trans cg00)
  replace cg01 := (ho.cell (p := (⟨g0B, 1, none⟩ : Addr)) (show g0B < w4'.heap.size ∨ w5'.heap.size ≤ g0B by omega)).trans ((hbn.cell (p := (⟨g0B, 1, none⟩ : Addr)) (show g0B < w10'.heap.size by omega)).trans cg01)
  replace cg02 := (ho.cell (p := (⟨g0B, 2, none⟩ : Addr)) (show g0B < w4'.heap.size ∨ w5'.heap.size ≤ g0B by omega)).trans ((hbn.cell (p := (⟨g0B, 2, none⟩ : Addr)) (show g0B < w10'.heap.size by omega)).trans cg02)
  have hb11 := hbm11.trans (ho.below (by omega))
  have hs11 : w10'.heap.size ≤ w11'.heap.size := by have := ho.size; omega
  clear hbn ho hbm11
  clear hm hx0
  clear cx00 cx01 cx02
  have hkk : decide ((1 + 3 * (es0.length : Int)) < 0) = false := by rw [decide_eq_false_iff_not]; omega
  have hkk2 : ¬ (1 + 3 * (es0.length : Int)) < 0 := by omega
  go_wp2_with fail
  refine (eqGraph_same w11' FR0 FS0 _ _ F0.length (flatE F0) (hg0.out.read.mono (by omega)) (hm0.out.read.mono (by omega))).mono ?_
  rintro e w12' ⟨rfl, hbn⟩
  have hb12 := hb11.trans (hbn.mono hb11.size)
  have hs12 := hbn.size
  replace hm0 := hidI (hm0.out.below hbn (by omega))
  replace hg0 := hidI (hg0.out.below hbn (by omega))
  replace ca00 := (hbn.cell (p := (⟨w.heap.size, 0, none⟩ : Addr)) (show w.heap.size < w11'.heap.size by omega)).trans ca00
  replace ca01 := (hbn.cell (p := (⟨w.heap.size, 1, none⟩ : Addr)) (show w.heap.size < w11'.heap.size by omega)).trans ca01
  replace ca02 := (hbn.cell (p := (⟨w.heap.size, 2, none⟩ : Addr)) (show w.heap.size < w11'.heap.size by omega)).trans ca02
  replace ca10 := (hbn.cell (p := (⟨w.heap.size + 1, 0, none⟩ : Addr)) (show w.heap.size + 1 < w11'.heap.size by omega)).trans ca10
  replace ca11 := (hbn.cell (p := (⟨w.heap.size + 1, 1, none⟩ : Addr)) (show w.heap.size + 1 < w11'.heap.size by omega)).trans ca11
  replace cm00 := (hbn.cell (p := (⟨m0B, 0, none⟩ : Addr)) (show m0B < w11'.heap.size by omega)).trans cm00
  replace cm01 := (hbn.cell (p := (⟨m0B, 1, none⟩ : Addr)) (show m0B < w11'.heap.size by omega)).trans cm01
  replace cm02 := (hbn.cell (p := (⟨m0B, 2, none⟩ : Addr)) (show m0B < w11'.heap.size by omega)).trans cm02
  replace cg00 := (hbn.cell (p := (⟨g0B, 0, none⟩ : Addr)) (show g0B < w11'.heap.size by omega)).trans cg00
  replace cg01 := (hbn.cell (p := (⟨g0B, 1, none⟩ : Addr)) (show g0B < w11'.heap.size by omega)).trans cg01
  replace cg02 := (hbn.cell (p := (⟨g0B, 2, none⟩ : Addr)) (show g0B < w11'.heap.size by omega)).trans cg02
  clear hbn
  go_wp2_with fail
  refine (markGraph_any w12' (g0lo) (g0hi) FR0 FS0 _ F0.length (flatE F0) 1 hg0.out (by omega) (by omega) (by omega) (by omega)).mono ?_
  rintro e w13' ⟨rfl, hm, wm, hbn, ho⟩
  have hbm13 := hb12.trans (hbn.mono hb12.size)
  have hsm13 := hbn.size
  replace hm0 := hidI ((hm0.out.below hbn (by omega)).only ho (by omega))
  replace ca00 := (ho.cell (p := (⟨w.heap.size, 0, none⟩ : Addr)) (show w.heap.size < g0lo ∨ g0hi ≤ w.heap.size by omega)).trans ((hbn.cell (p := (⟨w.heap.size, 0, none⟩ : Addr)) (show w.heap.size < w12'.heap.size by omega)).trans ca00)
  replace ca01 := (ho.cell (p := (⟨w.heap.size, 1, none⟩ : Addr)) (show w.heap.size < g0lo ∨ g0hi ≤ w.heap.size by omega)).trans ((hbn.cell (p := (⟨w.heap.size, 1, none⟩ : Addr)) (show w.heap.size < w12'.heap.size by omega)).trans ca01)
  replace ca02 := (ho.cell (p := (⟨w.heap.size, 2, none⟩ : Addr)) (show w.heap.size < g0lo ∨ g0hi ≤ w.heap.size by omega)).trans ((hbn.cell (p := (⟨w.heap.size, 2, none⟩ : Addr)) (show w.heap.size < w12'.heap.size by omega)).trans ca02)
  replace ca10 := (ho.cell (p := (⟨w.heap.size + 1, 0, none⟩ : Addr)) (show w.heap.size + 1 < g0lo ∨ g0hi ≤ w.heap.size + 1 by omega)).trans ((hbn.cell (p := (⟨w.heap.size + 1, 0, none⟩ : Addr)) (show w.heap.size + 1 < w12'.heap.size by omega)).trans ca10)
  replace ca11 := (ho.cell (p := (⟨w.heap.size + 1, 1, none⟩ : Addr)) (show w.heap.size + 1 < g0lo ∨ g0hi ≤ w.heap.size + 1 by omega)).trans ((hbn.cell (p := (⟨w.heap.size + 1, 1, none⟩ : Addr)) (show w.heap.size + 1 < w12'.heap.size by omega)).trans ca11)
  replace cm00 := (ho.cell (p := (⟨m0B, 0, none⟩ : Addr)) (show m0B < g0lo ∨ g0hi ≤ m0B by omega)).trans ((hbn.cell (p := (⟨m0B, 0, none⟩ : Addr)) (show m0B < w12'.heap.size by omega)).trans cm00)
  replace cm01 := (ho.cell (p := (⟨m0B, 1, none⟩ : Addr)) (show m0B < g0lo ∨ g0hi ≤ m0B by omega)).trans ((hbn.cell (p := (⟨m0B, 1, none⟩ : Addr)) (show m0B < w12'.heap.size by omega)).trans cm01)
  replace cm02 := (ho.cell (p := (⟨m0B, 2, none⟩ : Addr)) (show m0B < g0lo ∨ g0hi ≤ m0B by omega)).trans ((hbn.cell (p := (⟨m0B, 2, none⟩ : Addr)) (show m0B < w12'.heap.size by omega)).trans cm02)
  replace cg00 := (ho.cell (p := (⟨g0B, 0, none⟩ : Addr)) (show g0B < g0lo ∨ g0hi ≤ g0B by omega)).trans ((hbn.cell (p := (⟨g0B, 0, none⟩ : Addr)) (show g0B < w12'.heap.size by omega)).trans cg00)
  replace cg01 := (ho.cell (p := (⟨g0B, 1, none⟩ : Addr)) (show g0B < g0lo ∨ g0hi ≤ g0B by omega)).trans ((hbn.cell (p := (⟨g0B, 1, none⟩ : Addr)) (show g0B < w12'.heap.size by omega)).trans cg01)
  replace cg02 := (ho.cell (p := (⟨g0B, 2, none⟩ : Addr)) (show g0B < g0lo ∨ g0hi ≤ g0B by omega)).trans ((hbn.cell (p := (⟨g0B, 2, none⟩ : Addr)) (show g0B < w12'.heap.size by omega)).trans cg02)
  have hb13 := hbm13.trans (ho.below (by omega))
  have hs13 : w12'.heap.size ≤ w13'.heap.size := by have := ho.size; omega
  clear hbn ho hbm13
  have hk0 := hidI hm
  clear hm hg0
  have hk0f : decide ((1 + 3 * (F0.length : Int)) < 0) = false := by rw [decide_eq_false_iff_not]; omega
  have hk0g : ¬ (1 + 3 * (F0.length : Int)) < 0 := by omega
  have hkq : ((1 + 3 * (F0.length : Int)) != (1 + 3 * (F0.length : Int))) = false := by simp
  go_wp2_with fail
  refine (heldGraph_any w13' FR0 FS0 _ F0.length 1 (hk0.out.read.mono (by omega)) (by omega) (by omega) (by omega)).mono ?_
  rintro e w14' ⟨rfl, hbn⟩
  have hb14 := hb13.trans (hbn.mono hb13.size)
  have hs14 := hbn.size
  replace hm0 := hidI (hm0.out.below hbn (by omega))
  replace hk0 := hidI (hk0.out.below hbn (by omega))
  replace ca00 := (hbn.cell (p := (⟨w.heap.size, 0, none⟩ : Addr)) (show w.heap.size < w13'.heap.size by omega)).trans ca00
  replace ca01 := (hbn.cell (p := (⟨w.heap.size, 1, none⟩ : Addr)) (show w.heap.size < w13'.heap.size by omega)).trans ca01
  replace ca02 := (hbn.cell (p := (⟨w.heap.size, 2, none⟩ : Addr)) (show w.heap.size < w13'.heap.size by omega)).trans ca02
  replace ca10 := (hbn.cell (p := (⟨w.heap.size + 1, 0, none⟩ : Addr)) (show w.heap.size + 1 < w13'.heap.size by omega)).trans ca10
  replace ca11 := (hbn.cell (p := (⟨w.heap.size + 1, 1, none⟩ : Addr)) (show w.heap.size + 1 < w13'.heap.size by omega)).trans ca11
  replace cm00 := (hbn.cell (p := (⟨m0B, 0, none⟩ : Addr)) (show m0B < w13'.heap.size by omega)).trans cm00
  replace cm01 := (hbn.cell (p := (⟨m0B, 1, none⟩ : Addr)) (show m0B < w13'.heap.size by omega)).trans cm01
  replace cm02 := (hbn.cell (p := (⟨m0B, 2, none⟩ : Addr)) (show m0B < w13'.heap.size by omega)).trans cm02
  replace cg00 := (hbn.cell (p := (⟨g0B, 0, none⟩ : Addr)) (show g0B < w13'.heap.size by omega)).trans cg00
  replace cg01 := (hbn.cell (p := (⟨g0B, 1, none⟩ : Addr)) (show g0B < w13'.heap.size by omega)).trans cg01
  replace cg02 := (hbn.cell (p := (⟨g0B, 2, none⟩ : Addr)) (show g0B < w13'.heap.size by omega)).trans cg02
  clear hbn
  go_wp2_with fail
  have hdr := below_dn (Below.refl w14'.heap.size w14') 1
  obtain ⟨wd, hwd⟩ : ∃ z, z = w14'.drew := ⟨_, rfl⟩
  have hbwd : Below w14'.heap.size w14' wd := by rw [hwd]; exact hdr
  have hswd := hbwd.size
  have ya00 := (hbwd.cell (p := (⟨w.heap.size, 0, none⟩ : Addr)) (show w.heap.size < w14'.heap.size by omega)).trans ca00
  have ya01 := (hbwd.cell (p := (⟨w.heap.size, 1, none⟩ : Addr)) (show w.heap.size < w14'.heap.size by omega)).trans ca01
  have ya02 := (hbwd.cell (p := (⟨w.heap.size, 2, none⟩ : Addr)) (show w.heap.size < w14'.heap.size by omega)).trans ca02
  have ya10 := (hbwd.cell (p := (⟨w.heap.size + 1, 0, none⟩ : Addr)) (show w.heap.size + 1 < w14'.heap.size by omega)).trans ca10
  have ya11 := (hbwd.cell (p := (⟨w.heap.size + 1, 1, none⟩ : Addr)) (show w.heap.size + 1 < w14'.heap.size by omega)).trans ca11
  replace hwd := hidI hwd
  go_cut [14, 15] from 79 to 86 (fun b x wx => ∃ (B lo hi : Nat) (a : Option Addr) (c : Nat), b = .pointer (some ⟨B, 0, none⟩) ∧ x = .bool F1 ∧ BoxRel w14' FR0 FS0 F0 B lo hi a c wx)
  case first =>
    refine hideQ (fun _ _ d _ _ h => by cases d <;> exact h) (fun Q' hnorm hpan => ?_)
    refine wp_region_held_drew (S := (fun z => z.cell? ⟨w.heap.size, 0, none⟩ = some (.int .i64 r0) ∧ z.cell? ⟨w.heap.size, 1, none⟩ = some (.int .i64 s0) ∧ z.cell? ⟨w.heap.size, 2, none⟩ = some (.slice ad0 es0.length cap0) ∧ z.cell? ⟨w.heap.size + 1, 0, none⟩ = some (.int .i64 fk1) ∧ z.cell? ⟨w.heap.size + 1, 1, none⟩ = some (.int .i64 fd1))) (by kernel_rfl) ?_ (fun hHeld => ?_)
    · try dsimp only
      rw [← hwd.out]
      ((repeat' apply And.intro) <;> assumption)
    rw [← hwd.out] at hHeld ⊢
    refine take_at 0 80 (v := ?_) rfl (by kernel_rfl) (by kernel_rfl) (by kernel_rfl) (by kernel_rfl) hpan (Or.inl ⟨by rfl, ?_⟩) (by assumption) ?_
    rotate_left
    · intro w hSw; (try dsimp only at hSw); go_simp; with_reducible rfl
    simp only [Act.put, List.setIfInBounds_toArray, List.set_cons_zero, List.set_cons_succ]
    refine take_at 2 82 (v := ?_) rfl (by kernel_rfl) (by kernel_rfl) (by kernel_rfl) (by kernel_rfl) hpan (Or.inl ⟨by rfl, ?_⟩) (by assumption) ?_
    rotate_left
    · intro w hSw; (try dsimp only at hSw); go_simp; with_reducible rfl
    simp only [Act.put, List.setIfInBounds_toArray, List.set_cons_zero, List.set_cons_succ]
    refine wpAnyH_ready (rs := [1, 8]) (by kernel_rfl) (by simp) ?_
    refine AllReadyH.cons rfl (fun K hK => ?_) ?_
    ·
      rw [if_pos (by rfl)]
      go_simp
      go_at_call 11
      (with_reducible refine (toGraph_any wd r0 s0 _ es0.length (flatE es0) ((hr0.out.below (hb14.trans (hbwd.mono hb14.size))).mono (by omega)) (by omega)).mono ?_)
      rintro e v0 ⟨ua0, uc0, rfl, hrow0, hbx⟩
      have hbv0 := hbwd.trans (hbx.mono hbwd.size)
      have hsv0 := hbx.size
      replace ya00 := (hbx.cell (p := (⟨w.heap.size, 0, none⟩ : Addr)) (show w.heap.size < wd.heap.size by omega)).trans ya00
      replace ya01 := (hbx.cell (p := (⟨w.heap.size, 1, none⟩ : Addr)) (show w.heap.size < wd.heap.size by omega)).trans ya01
      replace ya02 := (hbx.cell (p := (⟨w.heap.size, 2, none⟩ : Addr)) (show w.heap.size < wd.heap.size by omega)).trans ya02
      replace ya10 := (hbx.cell (p := (⟨w.heap.size + 1, 0, none⟩ : Addr)) (show w.heap.size + 1 < wd.heap.size by omega)).trans ya10
      replace ya11 := (hbx.cell (p := (⟨w.heap.size + 1, 1, none⟩ : Addr)) (show w.heap.size + 1 < wd.heap.size by omega)).trans ya11
      clear hbx
      have hy0 := hidI hrow0
      clear hrow0
      refine hK.out _ _ ?_ (fun hHeld => ?_)
      · try dsimp only
        ((repeat' apply And.intro) <;> assumption)
      clear hK
      try simp only [Act.put, List.setIfInBounds_toArray, List.set_cons_zero, List.set_cons_succ]
      refine wpAnyH_ready (rs := [3, 8]) (by kernel_rfl) (by simp) ?_
      refine AllReadyH.cons rfl (fun K hK => ?_) ?_
      ·
        rw [if_pos (by rfl)]
        go_simp
        go_at_call 16
        (with_reducible refine (toFold_any v0 fk1 fd1).mono ?_)
        rintro e v1 ⟨rfl, hbx⟩
        have hbv1 := hbv0.trans (hbx.mono hbv0.size)
        have hsv1 := hbx.size
        replace ya00 := (hbx.cell (p := (⟨w.heap.size, 0, none⟩ : Addr)) (show w.heap.size < v0.heap.size by omega)).trans ya00
        replace ya01 := (hbx.cell (p := (⟨w.heap.size, 1, none⟩ : Addr)) (show w.heap.size < v0.heap.size by omega)).trans ya01
        replace ya02 := (hbx.cell (p := (⟨w.heap.size, 2, none⟩ : Addr)) (show w.heap.size < v0.heap.size by omega)).trans ya02
        replace ya10 := (hbx.cell (p := (⟨w.heap.size + 1, 0, none⟩ : Addr)) (show w.heap.size + 1 < v0.heap.size by omega)).trans ya10
        replace ya11 := (hbx.cell (p := (⟨w.heap.size + 1, 1, none⟩ : Addr)) (show w.heap.size + 1 < v0.heap.size by omega)).trans ya11
        replace hy0 := hidI (hy0.out.below hbx (by omega))
        clear hbx
        refine hK.out _ _ ?_ (fun hHeld => ?_)
        · try dsimp only
          ((repeat' apply And.intro) <;> assumption)
        clear hK
        try simp only [Act.put, List.setIfInBounds_toArray, List.set_cons_zero, List.set_cons_succ]
        refine wpAnyH_ready (rs := [4, 8]) (by kernel_rfl) (by simp) ?_
        refine AllReadyH.cons rfl (fun K hK => ?_) ?_
        ·
          rw [if_pos (by rfl)]
          go_simp
          go_at_call 17
          (with_reducible refine (progMerge v1 r0 s0 fk1 fd1 _ es0 (hy0.out.read.mono (by omega)) (by omega)).mono ?_)
          intro e v2 hpost
          rw [← hF0.out, ← hFS0.out, ← hF1.out, ← hFR0.out] at hpost
          obtain ⟨ma, mc, rfl, hrow0, hbx⟩ := hpost
          have hbv2 := hbv1.trans (hbx.mono hbv1.size)
          have hsv2 := hbx.size
          replace ya00 := (hbx.cell (p := (⟨w.heap.size, 0, none⟩ : Addr)) (show w.heap.size < v1.heap.size by omega)).trans ya00
          replace ya01 := (hbx.cell (p := (⟨w.heap.size, 1, none⟩ : Addr)) (show w.heap.size < v1.heap.size by omega)).trans ya01
          replace ya02 := (hbx.cell (p := (⟨w.heap.size, 2, none⟩ : Addr)) (show w.heap.size < v1.heap.size by omega)).trans ya02
          replace ya10 := (hbx.cell (p := (⟨w.heap.size + 1, 0, none⟩ : Addr)) (show w.heap.size + 1 < v1.heap.size by omega)).trans ya10
          replace ya11 := (hbx.cell (p := (⟨w.heap.size + 1, 1, none⟩ : Addr)) (show w.heap.size + 1 < v1.heap.size by omega)).trans ya11
          replace hy0 := hidI (hy0.out.below hbx (by omega))
          clear hbx
          have hrowF := hidI hrow0
          clear hrow0
          refine hK.out _ _ ?_ (fun hHeld => ?_)
          · try dsimp only
            ((repeat' apply And.intro) <;> assumption)
          clear hK
          try simp only [Act.put, List.setIfInBounds_toArray, List.set_cons_zero, List.set_cons_succ]
          refine take_at 5 79 (v := ?_) rfl (by kernel_rfl) (by kernel_rfl) (by kernel_rfl) (by kernel_rfl) hpan (Or.inl ⟨by rfl, ?_⟩) (by assumption) ?_
          rotate_left
          · intro w hSw; (try dsimp only at hSw); go_simp; with_reducible rfl
          simp only [Act.put, List.setIfInBounds_toArray, List.set_cons_zero, List.set_cons_succ]
          refine take_at 6 85 (v := ?_) rfl (by kernel_rfl) (by kernel_rfl) (by kernel_rfl) (by kernel_rfl) hpan (Or.inl ⟨by rfl, ?_⟩) (by assumption) ?_
          rotate_left
          · intro w hSw; (try dsimp only at hSw); go_simp; with_reducible rfl
          simp only [Act.put, List.setIfInBounds_toArray, List.set_cons_zero, List.set_cons_succ]
          refine take_at 7 86 (v := ?_) rfl (by kernel_rfl) (by kernel_rfl) (by kernel_rfl) (by kernel_rfl) hpan (Or.inl ⟨by rfl, ?_⟩) (by assumption) ?_
          rotate_left
          · intro w hSw; (try dsimp only at hSw); go_simp; with_reducible rfl
          simp only [Act.put, List.setIfInBounds_toArray, List.set_cons_zero, List.set_cons_succ]
          refine wpAnyH_ready (rs := [8]) (by kernel_rfl) (by simp) ?_
          refine AllReadyH.cons rfl (fun K hK => ?_) AllReadyH.nil
          rw [if_pos (by rfl)]
          go_simp
          obtain ⟨v3, hn3⟩ : ∃ z, z = v2.alloc (.cells #[.int .i64 0, .int .i64 0, .slice none 0 0] 32) := ⟨_, rfl⟩
          have hbx : Below v2.heap.size v2 v3 := by rw [hn3]; exact (Below.refl _ _).alloc (Nat.le_refl _) _
          have hltA : v2.heap.size < v3.heap.size := by rw [hn3]; simp
          have hBA0 : v3.heap[v2.heap.size]? = some (.cells #[.int .i64 0, .int .i64 0, .slice none 0 0] 32 (0, 0)) := by rw [hn3]; exact heap_alloc_new _ _
          rw [← hn3]
          replace hn3 := hidI hn3
          have hbv3 := hbv2.trans (hbx.mono hbv2.size)
          have hsv3 := hbx.size
          replace ya00 := (hbx.cell (p := (⟨w.heap.size, 0, none⟩ : Addr)) (show w.heap.size < v2.heap.size by omega)).trans ya00
          replace ya01 := (hbx.cell (p := (⟨w.heap.size, 1, none⟩ : Addr)) (show w.heap.size < v2.heap.size by omega)).trans ya01
          replace ya02 := (hbx.cell (p := (⟨w.heap.size, 2, none⟩ : Addr)) (show w.heap.size < v2.heap.size by omega)).trans ya02
          replace ya10 := (hbx.cell (p := (⟨w.heap.size + 1, 0, none⟩ : Addr)) (show w.heap.size + 1 < v2.heap.size by omega)).trans ya10
          replace ya11 := (hbx.cell (p := (⟨w.heap.size + 1, 1, none⟩ : Addr)) (show w.heap.size + 1 < v2.heap.size by omega)).trans ya11
          replace hy0 := hidI (hy0.out.below hbx (by omega))
          replace hrowF := hidI (hrowF.out.below hbx (by omega))
          clear hbx
          have hBA := hidI hBA0
          clear hBA0
          refine hK.out _ _ ?_ (fun hHeld => ?_)
          · try dsimp only
            ((repeat' apply And.intro) <;> assumption)
          clear hK
          try simp only [Act.put, List.setIfInBounds_toArray, List.set_cons_zero, List.set_cons_succ]
          refine wpAnyH_ready (rs := [9]) (by kernel_rfl) (by simp) ?_
          refine AllReadyH.cons rfl (fun K hK => ?_) AllReadyH.nil
          rw [if_pos (by rfl)]
          have z0 := cell_of_heap hBA.out 0
          have z1 := cell_of_heap hBA.out 1
          have z2 := cell_of_heap hBA.out 2
          have fz := fun j => frozen_of_row v3 v2.heap.size j _ _ hBA.out
          simp at z0 z1 z2
          obtain ⟨v4, hn4⟩ : ∃ z, z = ((v3.setCell ⟨v2.heap.size, 0, none⟩ (.int .i64 FR0)).setCell ⟨v2.heap.size, 1, none⟩ (.int .i64 FS0)).setCell ⟨v2.heap.size, 2, none⟩ (.slice ma F0.length mc) := ⟨_, rfl⟩
          replace ya00 : v4.cell? ⟨w.heap.size, 0, none⟩ = some (.int .i64 r0) := by rw [hn4, World.cell?_of_block (heap_set3 (show w.heap.size ≠ v2.heap.size by omega))]; exact ya00
          replace ya01 : v4.cell? ⟨w.heap.size, 1, none⟩ = some (.int .i64 s0) := by rw [hn4, World.cell?_of_block (heap_set3 (show w.heap.size ≠ v2.heap.size by omega))]; exact ya01
          replace ya02 : v4.cell? ⟨w.heap.size, 2, none⟩ = some (.slice ad0 es0.length cap0) := by rw [hn4, World.cell?_of_block (heap_set3 (show w.heap.size ≠ v2.heap.size by omega))]; exact ya02
          replace ya10 : v4.cell? ⟨w.heap.size + 1, 0, none⟩ = some (.int .i64 fk1) := by rw [hn4, World.cell?_of_block (heap_set3 (show w.heap.size + 1 ≠ v2.heap.size by omega))]; exact ya10
          replace ya11 : v4.cell? ⟨w.heap.size + 1, 1, none⟩ = some (.int .i64 fd1) := by rw [hn4, World.cell?_of_block (heap_set3 (show w.heap.size + 1 ≠ v2.heap.size by omega))]; exact ya11
          have hrel : BoxRel w14' FR0 FS0 F0 v2.heap.size v1.heap.size v2.heap.size ma mc v4 := by
            rw [hn4]
            exact ⟨by omega, by rw [size_set3]; omega, set3 hBA.out _ _ _, by omega, by rw [size_set3]; omega, by omega, by omega, hrowF.out.set3_ (by omega), below_set3 hbv3 (by omega)⟩
          replace hrel := hidI hrel
          replace hn4 := hidI hn4
          go_simp
          rw [← hn4.out]
          clear z0 z1 z2 fz
          refine hK.out _ _ ?_ (fun hHeld => ?_)
          · try dsimp only
            ((repeat' apply And.intro) <;> assumption)
          clear hK
          try simp only [Act.put, List.setIfInBounds_toArray, List.set_cons_zero, List.set_cons_succ]
          refine take_at 10 15 (v := ?_) rfl (by kernel_rfl) (by kernel_rfl) (by kernel_rfl) (by kernel_rfl) hpan (Or.inl ⟨by rfl, ?_⟩) (by assumption) ?_
          rotate_left
          · intro w hSw; (try dsimp only at hSw); go_simp; with_reducible rfl
          simp only [Act.put, List.setIfInBounds_toArray, List.set_cons_zero, List.set_cons_succ]
          refine wpAnyH_done (by kernel_rfl) ?_ _
          refine hnorm _ _ ?_
          clear hnorm hpan
          repeat clear hHeld
          try simp only [Exit.then]
          go_wp2_with fail
          go_meet
          exact ⟨_, _, _, _, _, rfl, rfl, hrel.out⟩
        refine AllReadyH.cons rfl (fun K hK => ?_) AllReadyH.nil
        rw [if_pos (by rfl)]
        go_simp
        obtain ⟨v2, hn2⟩ : ∃ z, z = v1.alloc (.cells #[.int .i64 0, .int .i64 0, .slice none 0 0] 32) := ⟨_, rfl⟩
        have hbx : Below v1.heap.size v1 v2 := by rw [hn2]; exact (Below.refl _ _).alloc (Nat.le_refl _) _
        have hltA : v1.heap.size < v2.heap.size := by rw [hn2]; simp
        have hBA0 : v2.heap[v1.heap.size]? = some (.cells #[.int .i64 0, .int .i64 0, .slice none 0 0] 32 (0, 0)) := by rw [hn2]; exact heap_alloc_new _ _
        rw [← hn2]
        replace hn2 := hidI hn2
        have hbv2 := hbv1.trans (hbx.mono hbv1.size)
        have hsv2 := hbx.size
        replace ya00 := (hbx.cell (p := (⟨w.heap.size, 0, none⟩ : Addr)) (show w.heap.size < v1.heap.size by omega)).trans ya00
        replace ya01 := (hbx.cell (p := (⟨w.heap.size, 1, none⟩ : Addr)) (show w.heap.size < v1.heap.size by omega)).trans ya01
        replace ya02 := (hbx.cell (p := (⟨w.heap.size, 2, none⟩ : Addr)) (show w.heap.size < v1.heap.size by omega)).trans ya02
        replace ya10 := (hbx.cell (p := (⟨w.heap.size + 1, 0, none⟩ : Addr)) (show w.heap.size + 1 < v1.heap.size by omega)).trans ya10
        replace ya11 := (hbx.cell (p := (⟨w.heap.size + 1, 1, none⟩ : Addr)) (show w.heap.size + 1 < v1.heap.size by omega)).trans ya11
        replace hy0 := hidI (hy0.out.below hbx (by omega))
        clear hbx
        have hBA := hidI hBA0
        clear hBA0
        refine hK.out _ _ ?_ (fun hHeld => ?_)
        · try dsimp only
          ((repeat' apply And.intro) <;> assumption)
        clear hK
        try simp only [Act.put, List.setIfInBounds_toArray, List.set_cons_zero, List.set_cons_succ]
        refine wpAnyH_ready (rs := [4]) (by kernel_rfl) (by simp) ?_
        refine AllReadyH.cons rfl (fun K hK => ?_) AllReadyH.nil
        rw [if_pos (by rfl)]
        go_simp
        go_at_call 17
        (with_reducible refine (progMerge v2 r0 s0 fk1 fd1 _ es0 (hy0.out.read.mono (by omega)) (by omega)).mono ?_)
        intro e v3 hpost
        rw [← hF0.out, ← hFS0.out, ← hF1.out, ← hFR0.out] at hpost
        obtain ⟨ma, mc, rfl, hrow0, hbx⟩ := hpost
        have hbv3 := hbv2.trans (hbx.mono hbv2.size)
        have hsv3 := hbx.size
        replace ya00 := (hbx.cell (p := (⟨w.heap.size, 0, none⟩ : Addr)) (show w.heap.size < v2.heap.size by omega)).trans ya00
        replace ya01 := (hbx.cell (p := (⟨w.heap.size, 1, none⟩ : Addr)) (show w.heap.size < v2.heap.size by omega)).trans ya01
        replace ya02 := (hbx.cell (p := (⟨w.heap.size, 2, none⟩ : Addr)) (show w.heap.size < v2.heap.size by omega)).trans ya02
        replace ya10 := (hbx.cell (p := (⟨w.heap.size + 1, 0, none⟩ : Addr)) (show w.heap.size + 1 < v2.heap.size by omega)).trans ya10
        replace ya11 := (hbx.cell (p := (⟨w.heap.size + 1, 1, none⟩ : Addr)) (show w.heap.size + 1 < v2.heap.size by omega)).trans ya11
        replace hy0 := hidI (hy0.out.below hbx (by omega))
        replace hBA := hidI ((hbx.block _ (by omega)).trans hBA.out)
        clear hbx
        have hrowF := hidI hrow0
        clear hrow0
        refine hK.out _ _ ?_ (fun hHeld => ?_)
        · try dsimp only
          ((repeat' apply And.intro) <;> assumption)
        clear hK
        try simp only [Act.put, List.setIfInBounds_toArray, List.set_cons_zero, List.set_cons_succ]
        refine take_at 5 79 (v := ?_) rfl (by kernel_rfl) (by kernel_rfl) (by kernel_rfl) (by kernel_rfl) hpan (Or.inl ⟨by rfl, ?_⟩) (by assumption) ?_
        rotate_left
        · intro w hSw; (try dsimp only at hSw); go_simp; with_reducible rfl
        simp only [Act.put, List.setIfInBounds_toArray, List.set_cons_zero, List.set_cons_succ]
        refine take_at 6 85 (v := ?_) rfl (by kernel_rfl) (by kernel_rfl) (by kernel_rfl) (by kernel_rfl) hpan (Or.inl ⟨by rfl, ?_⟩) (by assumption) ?_
        rotate_left
        · intro w hSw; (try dsimp only at hSw); go_simp; with_reducible rfl
        simp only [Act.put, List.setIfInBounds_toArray, List.set_cons_zero, List.set_cons_succ]
        refine take_at 7 86 (v := ?_) rfl (by kernel_rfl) (by kernel_rfl) (by kernel_rfl) (by kernel_rfl) hpan (Or.inl ⟨by rfl, ?_⟩) (by assumption) ?_
        rotate_left
        · intro w hSw; (try dsimp only at hSw); go_simp; with_reducible rfl
        simp only [Act.put, List.setIfInBounds_toArray, List.set_cons_zero, List.set_cons_succ]
        refine wpAnyH_ready (rs := [9]) (by kernel_rfl) (by simp) ?_
        refine AllReadyH.cons rfl (fun K hK => ?_) AllReadyH.nil
        rw [if_pos (by rfl)]
        have z0 := cell_of_heap hBA.out 0
        have z1 := cell_of_heap hBA.out 1
        have z2 := cell_of_heap hBA.out 2
        have fz := fun j => frozen_of_row v3 v1.heap.size j _ _ hBA.out
        simp at z0 z1 z2
        obtain ⟨v4, hn4⟩ : ∃ z, z = ((v3.setCell ⟨v1.heap.size, 0, none⟩ (.int .i64 FR0)).setCell ⟨v1.heap.size, 1, none⟩ (.int .i64 FS0)).setCell ⟨v1.heap.size, 2, none⟩ (.slice ma F0.length mc) := ⟨_, rfl⟩
        replace ya00 : v4.cell? ⟨w.heap.size, 0, none⟩ = some (.int .i64 r0) := by rw [hn4, World.cell?_of_block (heap_set3 (show w.heap.size ≠ v1.heap.size by omega))]; exact ya00
        replace ya01 : v4.cell? ⟨w.heap.size, 1, none⟩ = some (.int .i64 s0) := by rw [hn4, World.cell?_of_block (heap_set3 (show w.heap.size ≠ v1.heap.size by omega))]; exact ya01
        replace ya02 : v4.cell? ⟨w.heap.size, 2, none⟩ = some (.slice ad0 es0.length cap0) := by rw [hn4, World.cell?_of_block (heap_set3 (show w.heap.size ≠ v1.heap.size by omega))]; exact ya02
        replace ya10 : v4.cell? ⟨w.heap.size + 1, 0, none⟩ = some (.int .i64 fk1) := by rw [hn4, World.cell?_of_block (heap_set3 (show w.heap.size + 1 ≠ v1.heap.size by omega))]; exact ya10
        replace ya11 : v4.cell? ⟨w.heap.size + 1, 1, none⟩ = some (.int .i64 fd1) := by rw [hn4, World.cell?_of_block (heap_set3 (show w.heap.size + 1 ≠ v1.heap.size by omega))]; exact ya11
        have hrel : BoxRel w14' FR0 FS0 F0 v1.heap.size v2.heap.size v3.heap.size ma mc v4 := by
          rw [hn4]
          exact ⟨by omega, by rw [size_set3]; omega, set3 hBA.out _ _ _, by omega, by rw [size_set3]; omega, by omega, by omega, hrowF.out.set3_ (by omega), below_set3 hbv3 (by omega)⟩
        replace hrel := hidI hrel
        replace hn4 := hidI hn4
        go_simp
        rw [← hn4.out]
        clear z0 z1 z2 fz
        refine hK.out _ _ ?_ (fun hHeld => ?_)
        · try dsimp only
          ((repeat' apply And.intro) <;> assumption)
        clear hK
        try simp only [Act.put, List.setIfInBounds_toArray, List.set_cons_zero, List.set_cons_succ]
        refine take_at 10 15 (v := ?_) rfl (by kernel_rfl) (by kernel_rfl) (by kernel_rfl) (by kernel_rfl) hpan (Or.inl ⟨by rfl, ?_⟩) (by assumption) ?_
        rotate_left
        · intro w hSw; (try dsimp only at hSw); go_simp; with_reducible rfl
        simp only [Act.put, List.setIfInBounds_toArray, List.set_cons_zero, List.set_cons_succ]
        refine wpAnyH_done (by kernel_rfl) ?_ _
        refine hnorm _ _ ?_
        clear hnorm hpan
        repeat clear hHeld
        try simp only [Exit.then]
        go_wp2_with fail
        go_meet
        exact ⟨_, _, _, _, _, rfl, rfl, hrel.out⟩
      refine AllReadyH.cons rfl (fun K hK => ?_) AllReadyH.nil
      rw [if_pos (by rfl)]
      go_simp
      obtain ⟨v1, hn1⟩ : ∃ z, z = v0.alloc (.cells #[.int .i64 0, .int .i64 0, .slice none 0 0] 32) := ⟨_, rfl⟩
      have hbx : Below v0.heap.size v0 v1 := by rw [hn1]; exact (Below.refl _ _).alloc (Nat.le_refl _) _
      have hltA : v0.heap.size < v1.heap.size := by rw [hn1]; simp
      have hBA0 : v1.heap[v0.heap.size]? = some (.cells #[.int .i64 0, .int .i64 0, .slice none 0 0] 32 (0, 0)) := by rw [hn1]; exact heap_alloc_new _ _
      rw [← hn1]
      replace hn1 := hidI hn1
      have hbv1 := hbv0.trans (hbx.mono hbv0.size)
      have hsv1 := hbx.size
      replace ya00 := (hbx.cell (p := (⟨w.heap.size, 0, none⟩ : Addr)) (show w.heap.size < v0.heap.size by omega)).trans ya00
      replace ya01 := (hbx.cell (p := (⟨w.heap.size, 1, none⟩ : Addr)) (show w.heap.size < v0.heap.size by omega)).trans ya01
      replace ya02 := (hbx.cell (p := (⟨w.heap.size, 2, none⟩ : Addr)) (show w.heap.size < v0.heap.size by omega)).trans ya02
      replace ya10 := (hbx.cell (p := (⟨w.heap.size + 1, 0, none⟩ : Addr)) (show w.heap.size + 1 < v0.heap.size by omega)).trans ya10
      replace ya11 := (hbx.cell (p := (⟨w.heap.size + 1, 1, none⟩ : Addr)) (show w.heap.size + 1 < v0.heap.size by omega)).trans ya11
      replace hy0 := hidI (hy0.out.below hbx (by omega))
      clear hbx
      have hBA := hidI hBA0
      clear hBA0
      refine hK.out _ _ ?_ (fun hHeld => ?_)
      · try dsimp only
        ((repeat' apply And.intro) <;> assumption)
      clear hK
      try simp only [Act.put, List.setIfInBounds_toArray, List.set_cons_zero, List.set_cons_succ]
      refine wpAnyH_ready (rs := [3]) (by kernel_rfl) (by simp) ?_
      refine AllReadyH.cons rfl (fun K hK => ?_) AllReadyH.nil
      rw [if_pos (by rfl)]
      go_simp
      go_at_call 16
      (with_reducible refine (toFold_any v1 fk1 fd1).mono ?_)
      rintro e v2 ⟨rfl, hbx⟩
      have hbv2 := hbv1.trans (hbx.mono hbv1.size)
      have hsv2 := hbx.size
      replace ya00 := (hbx.cell (p := (⟨w.heap.size, 0, none⟩ : Addr)) (show w.heap.size < v1.heap.size by omega)).trans ya00
      replace ya01 := (hbx.cell (p := (⟨w.heap.size, 1, none⟩ : Addr)) (show w.heap.size < v1.heap.size by omega)).trans ya01
      replace ya02 := (hbx.cell (p := (⟨w.heap.size, 2, none⟩ : Addr)) (show w.heap.size < v1.heap.size by omega)).trans ya02
      replace ya10 := (hbx.cell (p := (⟨w.heap.size + 1, 0, none⟩ : Addr)) (show w.heap.size + 1 < v1.heap.size by omega)).trans ya10
      replace ya11 := (hbx.cell (p := (⟨w.heap.size + 1, 1, none⟩ : Addr)) (show w.heap.size + 1 < v1.heap.size by omega)).trans ya11
      replace hy0 := hidI (hy0.out.below hbx (by omega))
      replace hBA := hidI ((hbx.block _ (by omega)).trans hBA.out)
      clear hbx
      refine hK.out _ _ ?_ (fun hHeld => ?_)
      · try dsimp only
        ((repeat' apply And.intro) <;> assumption)
      clear hK
      try simp only [Act.put, List.setIfInBounds_toArray, List.set_cons_zero, List.set_cons_succ]
      refine wpAnyH_ready (rs := [4]) (by kernel_rfl) (by simp) ?_
      refine AllReadyH.cons rfl (fun K hK => ?_) AllReadyH.nil
      rw [if_pos (by rfl)]
      go_simp
      go_at_call 17
      (with_reducible refine (progMerge v2 r0 s0 fk1 fd1 _ es0 (hy0.out.read.mono (by omega)) (by omega)).mono ?_)
      intro e v3 hpost
      rw [← hF0.out, ← hFS0.out, ← hF1.out, ← hFR0.out] at hpost
      obtain ⟨ma, mc, rfl, hrow0, hbx⟩ := hpost
      have hbv3 := hbv2.trans (hbx.mono hbv2.size)
      have hsv3 := hbx.size
      replace ya00 := (hbx.cell (p := (⟨w.heap.size, 0, none⟩ : Addr)) (show w.heap.size < v2.heap.size by omega)).trans ya00
      replace ya01 := (hbx.cell (p := (⟨w.heap.size, 1, none⟩ : Addr)) (show w.heap.size < v2.heap.size by omega)).trans ya01
      replace ya02 := (hbx.cell (p := (⟨w.heap.size, 2, none⟩ : Addr)) (show w.heap.size < v2.heap.size by omega)).trans ya02
      replace ya10 := (hbx.cell (p := (⟨w.heap.size + 1, 0, none⟩ : Addr)) (show w.heap.size + 1 < v2.heap.size by omega)).trans ya10
      replace ya11 := (hbx.cell (p := (⟨w.heap.size + 1, 1, none⟩ : Addr)) (show w.heap.size + 1 < v2.heap.size by omega)).trans ya11
      replace hy0 := hidI (hy0.out.below hbx (by omega))
      replace hBA := hidI ((hbx.block _ (by omega)).trans hBA.out)
      clear hbx
      have hrowF := hidI hrow0
      clear hrow0
      refine hK.out _ _ ?_ (fun hHeld => ?_)
      · try dsimp only
        ((repeat' apply And.intro) <;> assumption)
      clear hK
      try simp only [Act.put, List.setIfInBounds_toArray, List.set_cons_zero, List.set_cons_succ]
      refine take_at 5 79 (v := ?_) rfl (by kernel_rfl) (by kernel_rfl) (by kernel_rfl) (by kernel_rfl) hpan (Or.inl ⟨by rfl, ?_⟩) (by assumption) ?_
      rotate_left
      · intro w hSw; (try dsimp only at hSw); go_simp; with_reducible rfl
      simp only [Act.put, List.setIfInBounds_toArray, List.set_cons_zero, List.set_cons_succ]
      refine take_at 6 85 (v := ?_) rfl (by kernel_rfl) (by kernel_rfl) (by kernel_rfl) (by kernel_rfl) hpan (Or.inl ⟨by rfl, ?_⟩) (by assumption) ?_
      rotate_left
      · intro w hSw; (try dsimp only at hSw); go_simp; with_reducible rfl
      simp only [Act.put, List.setIfInBounds_toArray, List.set_cons_zero, List.set_cons_succ]
      refine take_at 7 86 (v := ?_) rfl (by kernel_rfl) (by kernel_rfl) (by kernel_rfl) (by kernel_rfl) hpan (Or.inl ⟨by rfl, ?_⟩) (by assumption) ?_
      rotate_left
      · intro w hSw; (try dsimp only at hSw); go_simp; with_reducible rfl
      simp only [Act.put, List.setIfInBounds_toArray, List.set_cons_zero, List.set_cons_succ]
      refine wpAnyH_ready (rs := [9]) (by kernel_rfl) (by simp) ?_
      refine AllReadyH.cons rfl (fun K hK => ?_) AllReadyH.nil
      rw [if_pos (by rfl)]
      have z0 := cell_of_heap hBA.out 0
      have z1 := cell_of_heap hBA.out 1
      have z2 := cell_of_heap hBA.out 2
      have fz := fun j => frozen_of_row v3 v0.heap.size j _ _ hBA.out
      simp at z0 z1 z2
      obtain ⟨v4, hn4⟩ : ∃ z, z = ((v3.setCell ⟨v0.heap.size, 0, none⟩ (.int .i64 FR0)).setCell ⟨v0.heap.size, 1, none⟩ (.int .i64 FS0)).setCell ⟨v0.heap.size, 2, none⟩ (.slice ma F0.length mc) := ⟨_, rfl⟩
      replace ya00 : v4.cell? ⟨w.heap.size, 0, none⟩ = some (.int .i64 r0) := by rw [hn4, World.cell?_of_block (heap_set3 (show w.heap.size ≠ v0.heap.size by omega))]; exact ya00
      replace ya01 : v4.cell? ⟨w.heap.size, 1, none⟩ = some (.int .i64 s0) := by rw [hn4, World.cell?_of_block (heap_set3 (show w.heap.size ≠ v0.heap.size by omega))]; exact ya01
      replace ya02 : v4.cell? ⟨w.heap.size, 2, none⟩ = some (.slice ad0 es0.length cap0) := by rw [hn4, World.cell?_of_block (heap_set3 (show w.heap.size ≠ v0.heap.size by omega))]; exact ya02
      replace ya10 : v4.cell? ⟨w.heap.size + 1, 0, none⟩ = some (.int .i64 fk1) := by rw [hn4, World.cell?_of_block (heap_set3 (show w.heap.size + 1 ≠ v0.heap.size by omega))]; exact ya10
      replace ya11 : v4.cell? ⟨w.heap.size + 1, 1, none⟩ = some (.int .i64 fd1) := by rw [hn4, World.cell?_of_block (heap_set3 (show w.heap.size + 1 ≠ v0.heap.size by omega))]; exact ya11
      have hrel : BoxRel w14' FR0 FS0 F0 v0.heap.size v2.heap.size v3.heap.size ma mc v4 := by
        rw [hn4]
        exact ⟨by omega, by rw [size_set3]; omega, set3 hBA.out _ _ _, by omega, by rw [size_set3]; omega, by omega, by omega, hrowF.out.set3_ (by omega), below_set3 hbv3 (by omega)⟩
      replace hrel := hidI hrel
      replace hn4 := hidI hn4
      go_simp
      rw [← hn4.out]
      clear z0 z1 z2 fz
      refine hK.out _ _ ?_ (fun hHeld => ?_)
      · try dsimp only
        ((repeat' apply And.intro) <;> assumption)
      clear hK
      try simp only [Act.put, List.setIfInBounds_toArray, List.set_cons_zero, List.set_cons_succ]
      refine take_at 10 15 (v := ?_) rfl (by kernel_rfl) (by kernel_rfl) (by kernel_rfl) (by kernel_rfl) hpan (Or.inl ⟨by rfl, ?_⟩) (by assumption) ?_
      rotate_left
      · intro w hSw; (try dsimp only at hSw); go_simp; with_reducible rfl
      simp only [Act.put, List.setIfInBounds_toArray, List.set_cons_zero, List.set_cons_succ]
      refine wpAnyH_done (by kernel_rfl) ?_ _
      refine hnorm _ _ ?_
      clear hnorm hpan
      repeat clear hHeld
      try simp only [Exit.then]
      go_wp2_with fail
      go_meet
      exact ⟨_, _, _, _, _, rfl, rfl, hrel.out⟩
    refine AllReadyH.cons rfl (fun K hK => ?_) AllReadyH.nil
    rw [if_pos (by rfl)]
    go_simp
    obtain ⟨v0, hn0⟩ : ∃ z, z = wd.alloc (.cells #[.int .i64 0, .int .i64 0, .slice none 0 0] 32) := ⟨_, rfl⟩
    have hbx : Below wd.heap.size wd v0 := by rw [hn0]; exact (Below.refl _ _).alloc (Nat.le_refl _) _
    have hltA : wd.heap.size < v0.heap.size := by rw [hn0]; simp
    have hBA0 : v0.heap[wd.heap.size]? = some (.cells #[.int .i64 0, .int .i64 0, .slice none 0 0] 32 (0, 0)) := by rw [hn0]; exact heap_alloc_new _ _
    rw [← hn0]
    replace hn0 := hidI hn0
    have hbv0 := hbwd.trans (hbx.mono hbwd.size)
    have hsv0 := hbx.size
    replace ya00 := (hbx.cell (p := (⟨w.heap.size, 0, none⟩ : Addr)) (show w.heap.size < wd.heap.size by omega)).trans ya00
    replace ya01 := (hbx.cell (p := (⟨w.heap.size, 1, none⟩ : Addr)) (show w.heap.size < wd.heap.size by omega)).trans ya01
    replace ya02 := (hbx.cell (p := (⟨w.heap.size, 2, none⟩ : Addr)) (show w.heap.size < wd.heap.size by omega)).trans ya02
    replace ya10 := (hbx.cell (p := (⟨w.heap.size + 1, 0, none⟩ : Addr)) (show w.heap.size + 1 < wd.heap.size by omega)).trans ya10
    replace ya11 := (hbx.cell (p := (⟨w.heap.size + 1, 1, none⟩ : Addr)) (show w.heap.size + 1 < wd.heap.size by omega)).trans ya11
    clear hbx
    have hBA := hidI hBA0
    clear hBA0
    refine hK.out _ _ ?_ (fun hHeld => ?_)
    · try dsimp only
      ((repeat' apply And.intro) <;> assumption)
    clear hK
    try simp only [Act.put, List.setIfInBounds_toArray, List.set_cons_zero, List.set_cons_succ]
    refine wpAnyH_ready (rs := [1]) (by kernel_rfl) (by simp) ?_
    refine AllReadyH.cons rfl (fun K hK => ?_) AllReadyH.nil
    rw [if_pos (by rfl)]
    go_simp
    go_at_call 11
    (with_reducible refine (toGraph_any v0 r0 s0 _ es0.length (flatE es0) ((hr0.out.below (hb14.trans (hbv0.mono hb14.size))).mono (by omega)) (by omega)).mono ?_)
    rintro e v1 ⟨ua0, uc0, rfl, hrow0, hbx⟩
    have hbv1 := hbv0.trans (hbx.mono hbv0.size)
    have hsv1 := hbx.size
    replace ya00 := (hbx.cell (p := (⟨w.heap.size, 0, none⟩ : Addr)) (show w.heap.size < v0.heap.size by omega)).trans ya00
    replace ya01 := (hbx.cell (p := (⟨w.heap.size, 1, none⟩ : Addr)) (show w.heap.size < v0.heap.size by omega)).trans ya01
    replace ya02 := (hbx.cell (p := (⟨w.heap.size, 2, none⟩ : Addr)) (show w.heap.size < v0.heap.size by omega)).trans ya02
    replace ya10 := (hbx.cell (p := (⟨w.heap.size + 1, 0, none⟩ : Addr)) (show w.heap.size + 1 < v0.heap.size by omega)).trans ya10
    replace ya11 := (hbx.cell (p := (⟨w.heap.size + 1, 1, none⟩ : Addr)) (show w.heap.size + 1 < v0.heap.size by omega)).trans ya11
    replace hBA := hidI ((hbx.block _ (by omega)).trans hBA.out)
    clear hbx
    have hy0 := hidI hrow0
    clear hrow0
    refine hK.out _ _ ?_ (fun hHeld => ?_)
    · try dsimp only
      ((repeat' apply And.intro) <;> assumption)
    clear hK
    try simp only [Act.put, List.setIfInBounds_toArray, List.set_cons_zero, List.set_cons_succ]
    refine wpAnyH_ready (rs := [3]) (by kernel_rfl) (by simp) ?_
    refine AllReadyH.cons rfl (fun K hK => ?_) AllReadyH.nil
    rw [if_pos (by rfl)]
    go_simp
    go_at_call 16
    (with_reducible refine (toFold_any v1 fk1 fd1).mono ?_)
    rintro e v2 ⟨rfl, hbx⟩
    have hbv2 := hbv1.trans (hbx.mono hbv1.size)
    have hsv2 := hbx.size
    replace ya00 := (hbx.cell (p := (⟨w.heap.size, 0, none⟩ : Addr)) (show w.heap.size < v1.heap.size by omega)).trans ya00
    replace ya01 := (hbx.cell (p := (⟨w.heap.size, 1, none⟩ : Addr)) (show w.heap.size < v1.heap.size by omega)).trans ya01
    replace ya02 := (hbx.cell (p := (⟨w.heap.size, 2, none⟩ : Addr)) (show w.heap.size < v1.heap.size by omega)).trans ya02
    replace ya10 := (hbx.cell (p := (⟨w.heap.size + 1, 0, none⟩ : Addr)) (show w.heap.size + 1 < v1.heap.size by omega)).trans ya10
    replace ya11 := (hbx.cell (p := (⟨w.heap.size + 1, 1, none⟩ : Addr)) (show w.heap.size + 1 < v1.heap.size by omega)).trans ya11
    replace hy0 := hidI (hy0.out.below hbx (by omega))
    replace hBA := hidI ((hbx.block _ (by omega)).trans hBA.out)
    clear hbx
    refine hK.out _ _ ?_ (fun hHeld => ?_)
    · try dsimp only
      ((repeat' apply And.intro) <;> assumption)
    clear hK
    try simp only [Act.put, List.setIfInBounds_toArray, List.set_cons_zero, List.set_cons_succ]
    refine wpAnyH_ready (rs := [4]) (by kernel_rfl) (by simp) ?_
    refine AllReadyH.cons rfl (fun K hK => ?_) AllReadyH.nil
    rw [if_pos (by rfl)]
    go_simp
    go_at_call 17
    (with_reducible refine (progMerge v2 r0 s0 fk1 fd1 _ es0 (hy0.out.read.mono (by omega)) (by omega)).mono ?_)
    intro e v3 hpost
    rw [← hF0.out, ← hFS0.out, ← hF1.out, ← hFR0.out] at hpost
    obtain ⟨ma, mc, rfl, hrow0, hbx⟩ := hpost
    have hbv3 := hbv2.trans (hbx.mono hbv2.size)
    have hsv3 := hbx.size
    replace ya00 := (hbx.cell (p := (⟨w.heap.size, 0, none⟩ : Addr)) (show w.heap.size < v2.heap.size by omega)).trans ya00
    replace ya01 := (hbx.cell (p := (⟨w.heap.size, 1, none⟩ : Addr)) (show w.heap.size < v2.heap.size by omega)).trans ya01
    replace ya02 := (hbx.cell (p := (⟨w.heap.size, 2, none⟩ : Addr)) (show w.heap.size < v2.heap.size by omega)).trans ya02
    replace ya10 := (hbx.cell (p := (⟨w.heap.size + 1, 0, none⟩ : Addr)) (show w.heap.size + 1 < v2.heap.size by omega)).trans ya10
    replace ya11 := (hbx.cell (p := (⟨w.heap.size + 1, 1, none⟩ : Addr)) (show w.heap.size + 1 < v2.heap.size by omega)).trans ya11
    replace hy0 := hidI (hy0.out.below hbx (by omega))
    replace hBA := hidI ((hbx.block _ (by omega)).trans hBA.out)
    clear hbx
    have hrowF := hidI hrow0
    clear hrow0
    refine hK.out _ _ ?_ (fun hHeld => ?_)
    · try dsimp only
      ((repeat' apply And.intro) <;> assumption)
    clear hK
    try simp only [Act.put, List.setIfInBounds_toArray, List.set_cons_zero, List.set_cons_succ]
    refine take_at 5 79 (v := ?_) rfl (by kernel_rfl) (by kernel_rfl) (by kernel_rfl) (by kernel_rfl) hpan (Or.inl ⟨by rfl, ?_⟩) (by assumption) ?_
    rotate_left
    · intro w hSw; (try dsimp only at hSw); go_simp; with_reducible rfl
    simp only [Act.put, List.setIfInBounds_toArray, List.set_cons_zero, List.set_cons_succ]
    refine take_at 6 85 (v := ?_) rfl (by kernel_rfl) (by kernel_rfl) (by kernel_rfl) (by kernel_rfl) hpan (Or.inl ⟨by rfl, ?_⟩) (by assumption) ?_
    rotate_left
    · intro w hSw; (try dsimp only at hSw); go_simp; with_reducible rfl
    simp only [Act.put, List.setIfInBounds_toArray, List.set_cons_zero, List.set_cons_succ]
    refine take_at 7 86 (v := ?_) rfl (by kernel_rfl) (by kernel_rfl) (by kernel_rfl) (by kernel_rfl) hpan (Or.inl ⟨by rfl, ?_⟩) (by assumption) ?_
    rotate_left
    · intro w hSw; (try dsimp only at hSw); go_simp; with_reducible rfl
    simp only [Act.put, List.setIfInBounds_toArray, List.set_cons_zero, List.set_cons_succ]
    refine wpAnyH_ready (rs := [9]) (by kernel_rfl) (by simp) ?_
    refine AllReadyH.cons rfl (fun K hK => ?_) AllReadyH.nil
    rw [if_pos (by rfl)]
    have z0 := cell_of_heap hBA.out 0
    have z1 := cell_of_heap hBA.out 1
    have z2 := cell_of_heap hBA.out 2
    have fz := fun j => frozen_of_row v3 wd.heap.size j _ _ hBA.out
    simp at z0 z1 z2
    obtain ⟨v4, hn4⟩ : ∃ z, z = ((v3.setCell ⟨wd.heap.size, 0, none⟩ (.int .i64 FR0)).setCell ⟨wd.heap.size, 1, none⟩ (.int .i64 FS0)).setCell ⟨wd.heap.size, 2, none⟩ (.slice ma F0.length mc) := ⟨_, rfl⟩
    replace ya00 : v4.cell? ⟨w.heap.size, 0, none⟩ = some (.int .i64 r0) := by rw [hn4, World.cell?_of_block (heap_set3 (show w.heap.size ≠ wd.heap.size by omega))]; exact ya00
    replace ya01 : v4.cell? ⟨w.heap.size, 1, none⟩ = some (.int .i64 s0) := by rw [hn4, World.cell?_of_block (heap_set3 (show w.heap.size ≠ wd.heap.size by omega))]; exact ya01
    replace ya02 : v4.cell? ⟨w.heap.size, 2, none⟩ = some (.slice ad0 es0.length cap0) := by rw [hn4, World.cell?_of_block (heap_set3 (show w.heap.size ≠ wd.heap.size by omega))]; exact ya02
    replace ya10 : v4.cell? ⟨w.heap.size + 1, 0, none⟩ = some (.int .i64 fk1) := by rw [hn4, World.cell?_of_block (heap_set3 (show w.heap.size + 1 ≠ wd.heap.size by omega))]; exact ya10
    replace ya11 : v4.cell? ⟨w.heap.size + 1, 1, none⟩ = some (.int .i64 fd1) := by rw [hn4, World.cell?_of_block (heap_set3 (show w.heap.size + 1 ≠ wd.heap.size by omega))]; exact ya11
    have hrel : BoxRel w14' FR0 FS0 F0 wd.heap.size v2.heap.size v3.heap.size ma mc v4 := by
      rw [hn4]
      exact ⟨by omega, by rw [size_set3]; omega, set3 hBA.out _ _ _, by omega, by rw [size_set3]; omega, by omega, by omega, hrowF.out.set3_ (by omega), below_set3 hbv3 (by omega)⟩
    replace hrel := hidI hrel
    replace hn4 := hidI hn4
    go_simp
    rw [← hn4.out]
    clear z0 z1 z2 fz
    refine hK.out _ _ ?_ (fun hHeld => ?_)
    · try dsimp only
      ((repeat' apply And.intro) <;> assumption)
    clear hK
    try simp only [Act.put, List.setIfInBounds_toArray, List.set_cons_zero, List.set_cons_succ]
    refine take_at 10 15 (v := ?_) rfl (by kernel_rfl) (by kernel_rfl) (by kernel_rfl) (by kernel_rfl) hpan (Or.inl ⟨by rfl, ?_⟩) (by assumption) ?_
    rotate_left
    · intro w hSw; (try dsimp only at hSw); go_simp; with_reducible rfl
    simp only [Act.put, List.setIfInBounds_toArray, List.set_cons_zero, List.set_cons_succ]
    refine wpAnyH_done (by kernel_rfl) ?_ _
    refine hnorm _ _ ?_
    clear hnorm hpan
    repeat clear hHeld
    try simp only [Exit.then]
    go_wp2_with fail
    go_meet
    exact ⟨_, _, _, _, _, rfl, rfl, hrel.out⟩
  obtain ⟨w15', rfl⟩ : ∃ z, z = wc := ⟨_, rfl⟩
  obtain ⟨q0B, q0lo, q0hi, q0a, q0c, rfl, rfl, hqq01, hqq02, hqq03, hqq04, hqq05, hqq06, hqq07, hrow0, hbn⟩ := hcut
  clear hwd hdr hbwd hswd ya00 ya01 ya02 ya10 ya11
  have hb15 := hb14.trans (hbn.mono hb14.size)
  have hs15 := hbn.size
  replace hm0 := hidI (hm0.out.below hbn (by omega))
  replace hk0 := hidI (hk0.out.below hbn (by omega))
  replace ca00 := (hbn.cell (p := (⟨w.heap.size, 0, none⟩ : Addr)) (show w.heap.size < w14'.heap.size by omega)).trans ca00
  replace ca01 := (hbn.cell (p := (⟨w.heap.size, 1, none⟩ : Addr)) (show w.heap.size < w14'.heap.size by omega)).trans ca01
  replace ca02 := (hbn.cell (p := (⟨w.heap.size, 2, none⟩ : Addr)) (show w.heap.size < w14'.heap.size by omega)).trans ca02
  replace ca10 := (hbn.cell (p := (⟨w.heap.size + 1, 0, none⟩ : Addr)) (show w.heap.size + 1 < w14'.heap.size by omega)).trans ca10
  replace ca11 := (hbn.cell (p := (⟨w.heap.size + 1, 1, none⟩ : Addr)) (show w.heap.size + 1 < w14'.heap.size by omega)).trans ca11
  replace cm00 := (hbn.cell (p := (⟨m0B, 0, none⟩ : Addr)) (show m0B < w14'.heap.size by omega)).trans cm00
  replace cm01 := (hbn.cell (p := (⟨m0B, 1, none⟩ : Addr)) (show m0B < w14'.heap.size by omega)).trans cm01
  replace cm02 := (hbn.cell (p := (⟨m0B, 2, none⟩ : Addr)) (show m0B < w14'.heap.size by omega)).trans cm02
  replace cg00 := (hbn.cell (p := (⟨g0B, 0, none⟩ : Addr)) (show g0B < w14'.heap.size by omega)).trans cg00
  replace cg01 := (hbn.cell (p := (⟨g0B, 1, none⟩ : Addr)) (show g0B < w14'.heap.size by omega)).trans cg01
  replace cg02 := (hbn.cell (p := (⟨g0B, 2, none⟩ : Addr)) (show g0B < w14'.heap.size by omega)).trans cg02
  clear hbn
  have hq0 := hidI hrow0
  clear hrow0
  have cq00 : w15'.cell? ⟨q0B, 0, none⟩ = some (.int .i64 FR0) := by simpa using cell_of_heap hqq03 0
  have cq01 : w15'.cell? ⟨q0B, 1, none⟩ = some (.int .i64 FS0) := by simpa using cell_of_heap hqq03 1
  have cq02 : w15'.cell? ⟨q0B, 2, none⟩ = some (.slice q0a F0.length q0c) := by simpa using cell_of_heap hqq03 2
  clear hqq03
  go_wp2_with fail
  refine (eqGraph_same w15' FR0 FS0 _ _ F0.length (flatE F0) (hq0.out.read.mono (by omega)) (hm0.out.read.mono (by omega))).mono ?_
  rintro e w16' ⟨rfl, hbn⟩
  have hb16 := hb15.trans (hbn.mono hb15.size)
  have hs16 := hbn.size
  replace hm0 := hidI (hm0.out.below hbn (by omega))
  replace hk0 := hidI (hk0.out.below hbn (by omega))
  replace hq0 := hidI (hq0.out.below hbn (by omega))
  replace ca00 := (hbn.cell (p := (⟨w.heap.size, 0, none⟩ : Addr)) (show w.heap.size < w15'.heap.size by omega)).trans ca00
  replace ca01 := (hbn.cell (p := (⟨w.heap.size, 1, none⟩ : Addr)) (show w.heap.size < w15'.heap.size by omega)).trans ca01
  replace ca02 := (hbn.cell (p := (⟨w.heap.size, 2, none⟩ : Addr)) (show w.heap.size < w15'.heap.size by omega)).trans ca02
  replace ca10 := (hbn.cell (p := (⟨w.heap.size + 1, 0, none⟩ : Addr)) (show w.heap.size + 1 < w15'.heap.size by omega)).trans ca10
  replace ca11 := (hbn.cell (p := (⟨w.heap.size + 1, 1, none⟩ : Addr)) (show w.heap.size + 1 < w15'.heap.size by omega)).trans ca11
  replace cm00 := (hbn.cell (p := (⟨m0B, 0, none⟩ : Addr)) (show m0B < w15'.heap.size by omega)).trans cm00
  replace cm01 := (hbn.cell (p := (⟨m0B, 1, none⟩ : Addr)) (show m0B < w15'.heap.size by omega)).trans cm01
  replace cm02 := (hbn.cell (p := (⟨m0B, 2, none⟩ : Addr)) (show m0B < w15'.heap.size by omega)).trans cm02
  replace cg00 := (hbn.cell (p := (⟨g0B, 0, none⟩ : Addr)) (show g0B < w15'.heap.size by omega)).trans cg00
  replace cg01 := (hbn.cell (p := (⟨g0B, 1, none⟩ : Addr)) (show g0B < w15'.heap.size by omega)).trans cg01
  replace cg02 := (hbn.cell (p := (⟨g0B, 2, none⟩ : Addr)) (show g0B < w15'.heap.size by omega)).trans cg02
  replace cq00 := (hbn.cell (p := (⟨q0B, 0, none⟩ : Addr)) (show q0B < w15'.heap.size by omega)).trans cq00
  replace cq01 := (hbn.cell (p := (⟨q0B, 1, none⟩ : Addr)) (show q0B < w15'.heap.size by omega)).trans cq01
  replace cq02 := (hbn.cell (p := (⟨q0B, 2, none⟩ : Addr)) (show q0B < w15'.heap.size by omega)).trans cq02
  clear hbn
  go_wp2_with fail
  refine (heldGraph_any w16' FR0 FS0 _ F0.length 1 (hk0.out.read.mono (by omega)) (by omega) (by omega) (by omega)).mono ?_
  rintro e w17' ⟨rfl, hbn⟩
  have hb17 := hb16.trans (hbn.mono hb16.size)
  have hs17 := hbn.size
  replace hm0 := hidI (hm0.out.below hbn (by omega))
  replace hk0 := hidI (hk0.out.below hbn (by omega))
  replace hq0 := hidI (hq0.out.below hbn (by omega))
  replace ca00 := (hbn.cell (p := (⟨w.heap.size, 0, none⟩ : Addr)) (show w.heap.size < w16'.heap.size by omega)).trans ca00
  replace ca01 := (hbn.cell (p := (⟨w.heap.size, 1, none⟩ : Addr)) (show w.heap.size < w16'.heap.size by omega)).trans ca01
  replace ca02 := (hbn.cell (p := (⟨w.heap.size, 2, none⟩ : Addr)) (show w.heap.size < w16'.heap.size by omega)).trans ca02
  replace ca10 := (hbn.cell (p := (⟨w.heap.size + 1, 0, none⟩ : Addr)) (show w.heap.size + 1 < w16'.heap.size by omega)).trans ca10
  replace ca11 := (hbn.cell (p := (⟨w.heap.size + 1, 1, none⟩ : Addr)) (show w.heap.size + 1 < w16'.heap.size by omega)).trans ca11
  replace cm00 := (hbn.cell (p := (⟨m0B, 0, none⟩ : Addr)) (show m0B < w16'.heap.size by omega)).trans cm00
  replace cm01 := (hbn.cell (p := (⟨m0B, 1, none⟩ : Addr)) (show m0B < w16'.heap.size by omega)).trans cm01
  replace cm02 := (hbn.cell (p := (⟨m0B, 2, none⟩ : Addr)) (show m0B < w16'.heap.size by omega)).trans cm02
  replace cg00 := (hbn.cell (p := (⟨g0B, 0, none⟩ : Addr)) (show g0B < w16'.heap.size by omega)).trans cg00
  replace cg01 := (hbn.cell (p := (⟨g0B, 1, none⟩ : Addr)) (show g0B < w16'.heap.size by omega)).trans cg01
  replace cg02 := (hbn.cell (p := (⟨g0B, 2, none⟩ : Addr)) (show g0B < w16'.heap.size by omega)).trans cg02
  replace cq00 := (hbn.cell (p := (⟨q0B, 0, none⟩ : Addr)) (show q0B < w16'.heap.size by omega)).trans cq00
  replace cq01 := (hbn.cell (p := (⟨q0B, 1, none⟩ : Addr)) (show q0B < w16'.heap.size by omega)).trans cq01
  replace cq02 := (hbn.cell (p := (⟨q0B, 2, none⟩ : Addr)) (show q0B < w16'.heap.size by omega)).trans cq02
  clear hbn
  go_wp2_with fail
  go_ret
  exact ⟨rfl, hb17⟩
theorem walk (W : World) (r0 s0 : Int) (a0 : Option Addr) (len0 cap0 : Nat) (es0 : List Ed) (fk1 fd1 : Int) (u0 : (Lit.int .i64 r0).wf = true) (y0 : (Lit.int .i64 s0).wf = true) (w0 : IsRowE W a0 len0 cap0 es0) (u1 : (Lit.int .i64 fk1).wf = true) (w1 : (Lit.int .i64 fd1).wf = true) :
    Calls Try.prog 4 #[.agg #[.int .i64 r0, .int .i64 s0, .slice a0 len0 cap0], .agg #[.int .i64 fk1, .int .i64 fd1]] W fun e w' => e = .returned (.bool true) ∧ Below W.heap.size W w' := by
  obtain ⟨e0, i0, m0⟩ := w0.len
  by_cases s0_ : 1048576 < len0
  · exact walk0_big0 W r0 s0 a0 len0 cap0 fk1 fd1 m0 s0_
  exact walk0 W r0 s0 _ es0 (wf_i64 u0) (wf_i64 y0) (w0.read (by omega)) i0 fk1 fd1 (wf_i64 u1) (wf_i64 w1) (by omega)

/-! ### The row's step -/
set_option maxRecDepth 100000 in
theorem lifted (os : Os) (started : os.Started) (H : Type) (enc : TypeId × Value → H) :
    ReturnsInHanded {} Try.checked os 4 .any (Rows.fnExactMergeVerticesSpec.pre6 enc Try.prog Try.f4 Rows.fnExactMergeVerticesRow.domain false) (Rows.fnExactMergeVerticesSpec.post enc Try.prog Try.f4 false true false false) := by
  refine returnsInHanded_of_change (C := Try.checked) own started (by kernel_rfl) Try.func4
    (ChangeSpec.witness6 (enc := enc) (C := Try.checked) false ⟨#[], #[.agg #[.int .i64 0, .int .i64 0, .slice none 0 0], .agg #[.int .i64 0, .int .i64 0]], []⟩ 8 (by kernel_rfl) (by kernel_rfl) (by kernel_rfl) (by kernel_rfl)) ?_
  intro W base args ds gs before hval0 hW hcnd _
  have hval : ∀ (j : Nat) t v, Try.f4.params[j]? = some t → args[j]? = some v → Value.okWide Try.prog W .any base t v := hval0
  have hW' := hW
  obtain ⟨p, q, hA0, hV, rfl, hfz, hnd⟩ := hW
  have hA : DataW.TrodAll enc Try.prog W 0 (fun _ => true) true Try.f4.params.toList args.toList ds p := hA0
  rw [Try.params4] at hA hval
  obtain ⟨v0, vs0, d0, ds0, p0, q0, hargs, rfl, rfl, h0, r0⟩ := trodAll_cons hA
  obtain ⟨v1, vs1, d1, ds1, p1, q1, rfl, rfl, rfl, h1, r1⟩ := trodAll_cons r0
  obtain ⟨rfl, rfl, rfl⟩ := trodAll_nil r1
  obtain rfl : args = #[v0, v1] := by cases args; simp_all
  obtain ⟨rfl, rfl⟩ := trodVars_none hV
  have k0 := h0
  have lt0 : ∀ x ∈ p0, x.block < W.heap.size := by obtain ⟨m, hm⟩ := k0; exact DataW.trod_lt m _ _ _ hm
  obtain ⟨gr0, gs0, a0, len0, cap0, es0, rfl, u0, y0, w0⟩ := open_graph (hval 0 24 v0 rfl rfl) h0
  have k1 := h1
  have lt1 : ∀ x ∈ p1, x.block < W.heap.size := by obtain ⟨m, hm⟩ := k1; exact DataW.trod_lt m _ _ _ hm
  obtain ⟨gk1, gd1, rfl, u1, w1⟩ := open_F (hval 1 37 v1 rfl rfl) h1
  clear hA0 hval0
  refine (walk W gr0 gs0 a0 len0 cap0 es0 gk1 gd1 u0 y0 w0 u1 w1).mono fun e W' ⟨he, hg⟩ => ?_
  subst he
  exact ⟨_, rfl, _, _, _, [], _, [], hW', trodAll_mk1 (shut_bool Try.underlying4 _), (trodAll_cons_mk (Below.trod laidOut (by kernel_rfl) (of_decide_eq_true (by kernel_rfl)) k0 hg lt0) (trodAll_cons_mk (Below.trod laidOut (by kernel_rfl) (of_decide_eq_true (by kernel_rfl)) k1 hg lt1) trodAll_mk0)), rfl, hg.frame _, fun h => by cases h⟩

theorem over : Rows.fnExactMergeVerticesRow.holds Try.pinned (OpenSpec.ofChange Rows.fnExactMergeVerticesSpec) :=
  OpenClaim.holds_of_wide 4 Try.f4 rfl rfl rfl rfl rfl rfl rfl ⟨rfl, rfl, rfl, rfl, rfl⟩ rfl rfl rfl rfl rfl (by kernel_rfl) Try.func4 (by kernel_rfl)
    (of_decide_eq_true (by kernel_rfl)) (by unfold Func.isWrapper; first | (rw [if_pos (by decide +kernel)]; kernel_rfl) | (rw [if_neg (by decide +kernel)]; exact ⟨rfl, rfl⟩))
    (fun os started H enc _ => lifted os started H enc)

theorem proved : Rows.FnExactMergeVerticesSaid := over
#print axioms proved
end Go.Proofs.Ytdeofaimgldklaa.fnExactMergeVertices
