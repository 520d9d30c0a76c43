/- For every int, laws.FnExactWholeGroup returns true and leaves its arguments as they are: the program's graph, and whether there is one, are the model's, in memory of its own. Conditions: none beyond the row's. -/
import Derived.Test.YtjnhhhnehkmfmaaQB
import Derived.Test.YtjnhhhnehkmfmaaZC
import Derived.Test.YtjnhhhnehkmfmaaYA
import Derived.WalkKit
import Derived.ProofKit
import Derived.OpenShut
import Derived.ShutString
import Derived.Below
namespace Go.Proofs.Ytjnhhhnehkmfmaa.fnExactWholeGroup
open Go.ChangeShapes Go.WideShapes Go.ChangeAt Go.RowKit
open Go.ChangeMaps (open_string shut_string)
set_option linter.unusedVariables false

theorem own : ownKnob Try.prog.godebug = none := by kernel_rfl

theorem laidOut : laidOutB Try.prog = true := by kernel_rfl
set_option maxHeartbeats 3200000 in
theorem walk0 (w : World) (a0 : Int) (w0 : -9223372036854775808 ≤ a0 ∧ a0 ≤ 9223372036854775807) :
    Calls Try.prog 7 #[.int .i64 a0] w fun e w' => e = .returned (.bool true) ∧ Below w.heap.size w w' := by
  obtain ⟨FR0, hFR0⟩ : ∃ F : Int, F = newR a0 := ⟨_, rfl⟩
  obtain ⟨FS0, hFS0⟩ : ∃ F : Int, F = newS a0 := ⟨_, rfl⟩
  obtain ⟨F0, hF0⟩ : ∃ F : List Ed, F = whL a0 := ⟨_, rfl⟩
  have hfl0 : F0.length ≤ 1000000000 := by rw [hF0]; have := whL_length a0; omega
  replace hFR0 := hidI hFR0
  replace hFS0 := hidI hFS0
  replace hF0 := hidI hF0
  obtain ⟨F1, hF1⟩ : ∃ F, F = newB a0 := ⟨_, rfl⟩
  have hne1 : (F1 != F1) = false := by simp
  have heq1 : (F1 == F1) = true := by simp
  replace hF1 := hidI hF1
  have hbw := Below.refl w.heap.size w
  go_enter Try.func7, Try.ntmps7
  go_wp2_with fail
  refine (specWholeG w a0).mono ?_
  intro e w1' hpost
  rw [← hF0.out, ← hFR0.out, ← hFS0.out, ← hF1.out] at hpost
  obtain ⟨m0a, m0c, rfl, hrow0, hbn⟩ := hpost
  have hb1 := hbw.trans (hbn.mono hbw.size)
  have hs1 := hbn.size
  clear hbn
  have hm0 := hidI hrow0
  clear hrow0
  obtain ⟨w2', hw2⟩ : ∃ z, z = w1'.alloc (.cells #[.int .i64 FR0, .int .i64 FS0, .slice m0a F0.length m0c] 29) := ⟨_, rfl⟩
  have hbn : Below w1'.heap.size w1' w2' := by rw [hw2]; exact (Below.refl _ _).alloc (Nat.le_refl _) _
  have hlt2 : w1'.heap.size < w2'.heap.size := by rw [hw2]; simp
  have hnb : w2'.heap[w1'.heap.size]? = some (.cells #[.int .i64 FR0, .int .i64 FS0, .slice m0a F0.length m0c] 29 (0, 0)) := by rw [hw2]; exact heap_alloc_new _ _
  replace hw2 := hidI hw2
  have hb2 := hb1.trans (hbn.mono hb1.size)
  have hs2 := hbn.size
  replace hm0 := hidI (hm0.out.below hbn (by omega))
  clear hbn
  have cm00 : w2'.cell? ⟨w1'.heap.size, 0, none⟩ = some (.int .i64 FR0) := by simpa using cell_of_heap hnb 0
  have cm01 : w2'.cell? ⟨w1'.heap.size, 1, none⟩ = some (.int .i64 FS0) := by simpa using cell_of_heap hnb 1
  have cm02 : w2'.cell? ⟨w1'.heap.size, 2, none⟩ = some (.slice m0a F0.length m0c) := by simpa using cell_of_heap hnb 2
  clear hnb
  go_wp2_with fail
  try rw [← hw2.out]
  refine (progWholeG w2' a0).mono ?_
  intro e w3' hpost
  rw [← hF0.out, ← hFR0.out, ← hFS0.out, ← hF1.out] at hpost
  obtain ⟨g0a, g0c, rfl, hrow0, hbn⟩ := hpost
  have hb3 := hb2.trans (hbn.mono hb2.size)
  have hs3 := hbn.size
  replace hm0 := hidI (hm0.out.below hbn (by omega))
  replace cm00 := (hbn.cell (p := (⟨w1'.heap.size, 0, none⟩ : Addr)) (show w1'.heap.size < w2'.heap.size by omega)).trans cm00
  replace cm01 := (hbn.cell (p := (⟨w1'.heap.size, 1, none⟩ : Addr)) (show w1'.heap.size < w2'.heap.size by omega)).trans cm01
  replace cm02 := (hbn.cell (p := (⟨w1'.heap.size, 2, none⟩ : Addr)) (show w1'.heap.size < w2'.heap.size by omega)).trans cm02
  clear hbn
  have hg0 := hidI hrow0
  clear hrow0
  have dm00_4 : ∀ o : Obj, (w3'.alloc o).cell? ⟨w1'.heap.size, 0, none⟩ = some (.int .i64 FR0) := fun o => (((Below.refl w3'.heap.size w3').alloc (Nat.le_refl _) o).cell (p := (⟨w1'.heap.size, 0, none⟩ : Addr)) (show w1'.heap.size < w3'.heap.size by omega)).trans cm00
  have dm01_4 : ∀ o : Obj, (w3'.alloc o).cell? ⟨w1'.heap.size, 1, none⟩ = some (.int .i64 FS0) := fun o => (((Below.refl w3'.heap.size w3').alloc (Nat.le_refl _) o).cell (p := (⟨w1'.heap.size, 1, none⟩ : Addr)) (show w1'.heap.size < w3'.heap.size by omega)).trans cm01
  have dm02_4 : ∀ o : Obj, (w3'.alloc o).cell? ⟨w1'.heap.size, 2, none⟩ = some (.slice m0a F0.length m0c) := fun o => (((Below.refl w3'.heap.size w3').alloc (Nat.le_refl _) o).cell (p := (⟨w1'.heap.size, 2, none⟩ : Addr)) (show w1'.heap.size < w3'.heap.size by omega)).trans cm02
  obtain ⟨w4', hw4⟩ : ∃ z, z = w3'.alloc (.cells #[.int .i64 FR0, .int .i64 FS0, .slice g0a F0.length g0c] 29) := ⟨_, rfl⟩
  have hbn : Below w3'.heap.size w3' w4' := by rw [hw4]; exact (Below.refl _ _).alloc (Nat.le_refl _) _
  have hlt4 : w3'.heap.size < w4'.heap.size := by rw [hw4]; simp
  have hnb : w4'.heap[w3'.heap.size]? = some (.cells #[.int .i64 FR0, .int .i64 FS0, .slice g0a F0.length g0c] 29 (0, 0)) := by rw [hw4]; exact heap_alloc_new _ _
  replace hw4 := hidI hw4
  have hb4 := hb3.trans (hbn.mono hb3.size)
  have hs4 := hbn.size
  replace hm0 := hidI (hm0.out.below hbn (by omega))
  replace hg0 := hidI (hg0.out.below hbn (by omega))
  replace cm00 := (hbn.cell (p := (⟨w1'.heap.size, 0, none⟩ : Addr)) (show w1'.heap.size < w3'.heap.size by omega)).trans cm00
  replace cm01 := (hbn.cell (p := (⟨w1'.heap.size, 1, none⟩ : Addr)) (show w1'.heap.size < w3'.heap.size by omega)).trans cm01
  replace cm02 := (hbn.cell (p := (⟨w1'.heap.size, 2, none⟩ : Addr)) (show w1'.heap.size < w3'.heap.size by omega)).trans cm02
  clear hbn
  have cg00 : w4'.cell? ⟨w3'.heap.size, 0, none⟩ = some (.int .i64 FR0) := by simpa using cell_of_heap hnb 0
  have cg01 : w4'.cell? ⟨w3'.heap.size, 1, none⟩ = some (.int .i64 FS0) := by simpa using cell_of_heap hnb 1
  have cg02 : w4'.cell? ⟨w3'.heap.size, 2, none⟩ = some (.slice g0a F0.length g0c) := by simpa using cell_of_heap hnb 2
  clear hnb
  go_wp2_with fail
  try rw [← hw4.out]
  clear dm00_4 dm01_4 dm02_4
  refine (eqGraph_same w4' FR0 FS0 _ _ F0.length (flatE F0) (hg0.out.read.mono (by omega)) (hm0.out.read.mono (by omega))).mono ?_
  rintro e w5' ⟨rfl, hbn⟩
  have hb5 := hb4.trans (hbn.mono hb4.size)
  have hs5 := hbn.size
  replace hm0 := hidI (hm0.out.below hbn (by omega))
  replace hg0 := hidI (hg0.out.below hbn (by omega))
  replace cm00 := (hbn.cell (p := (⟨w1'.heap.size, 0, none⟩ : Addr)) (show w1'.heap.size < w4'.heap.size by omega)).trans cm00
  replace cm01 := (hbn.cell (p := (⟨w1'.heap.size, 1, none⟩ : Addr)) (show w1'.heap.size < w4'.heap.size by omega)).trans cm01
  replace cm02 := (hbn.cell (p := (⟨w1'.heap.size, 2, none⟩ : Addr)) (show w1'.heap.size < w4'.heap.size by omega)).trans cm02
  replace cg00 := (hbn.cell (p := (⟨w3'.heap.size, 0, none⟩ : Addr)) (show w3'.heap.size < w4'.heap.size by omega)).trans cg00
  replace cg01 := (hbn.cell (p := (⟨w3'.heap.size, 1, none⟩ : Addr)) (show w3'.heap.size < w4'.heap.size by omega)).trans cg01
  replace cg02 := (hbn.cell (p := (⟨w3'.heap.size, 2, none⟩ : Addr)) (show w3'.heap.size < w4'.heap.size by omega)).trans cg02
  clear hbn
  go_wp2_with fail
  refine (markGraph_any w5' (w2'.heap.size) (w3'.heap.size) FR0 FS0 _ F0.length (flatE F0) 1 hg0.out (by omega) (by omega) (by omega) (by omega)).mono ?_
  rintro e w6' ⟨rfl, hm, wm, hbn, ho⟩
  have hbm6 := hb5.trans (hbn.mono hb5.size)
  have hsm6 := hbn.size
  replace hm0 := hidI ((hm0.out.below hbn (by omega)).only ho (by omega))
  replace cm00 := (ho.cell (p := (⟨w1'.heap.size, 0, none⟩ : Addr)) (show w1'.heap.size < w2'.heap.size ∨ w3'.heap.size ≤ w1'.heap.size by omega)).trans ((hbn.cell (p := (⟨w1'.heap.size, 0, none⟩ : Addr)) (show w1'.heap.size < w5'.heap.size by omega)).trans cm00)
  replace cm01 := (ho.cell (p := (⟨w1'.heap.size, 1, none⟩ : Addr)) (show w1'.heap.size < w2'.heap.size ∨ w3'.heap.size ≤ w1'.heap.size by omega)).trans ((hbn.cell (p := (⟨w1'.heap.size, 1, none⟩ : Addr)) (show w1'.heap.size < w5'.heap.size by omega)).trans cm01)
  replace cm02 := (ho.cell (p := (⟨w1'.heap.size, 2, none⟩ : Addr)) (show w1'.heap.size < w2'.heap.size ∨ w3'.heap.size ≤ w1'.heap.size by omega)).trans ((hbn.cell (p := (⟨w1'.heap.size, 2, none⟩ : Addr)) (show w1'.heap.size < w5'.heap.size by omega)).trans cm02)
  replace cg00 := (ho.cell (p := (⟨w3'.heap.size, 0, none⟩ : Addr)) (show w3'.heap.size < w2'.heap.size ∨ w3'.heap.size ≤ w3'.heap.size by omega)).trans ((hbn.cell (p := (⟨w3'.heap.size, 0, none⟩ : Addr)) (show w3'.heap.size < w5'.heap.size by omega)).trans cg00)
  replace cg01 := (ho.cell (p := (⟨w3'.heap.size, 1, none⟩ : Addr)) (show w3'.heap.size < w2'.heap.size ∨ w3'.heap.size ≤ w3'.heap.size by omega)).trans ((hbn.cell (p := (⟨w3'.heap.size, 1, none⟩ : Addr)) (show w3'.heap.size < w5'.heap.size by omega)).trans cg01)
  replace cg02 := (ho.cell (p := (⟨w3'.heap.size, 2, none⟩ : Addr)) (show w3'.heap.size < w2'.heap.size ∨ w3'.heap.size ≤ w3'.heap.size by omega)).trans ((hbn.cell (p := (⟨w3'.heap.size, 2, none⟩ : Addr)) (show w3'.heap.size < w5'.heap.size by omega)).trans cg02)
  have hb6 := hbm6.trans (ho.below (by omega))
  have hs6 : w5'.heap.size ≤ w6'.heap.size := by have := ho.size; omega
  clear hbn ho hbm6
  have hk0 := hidI hm
  clear hm hg0
  have hk0f : decide ((1 + 3 * (F0.length : Int)) < 0) = false := by rw [decide_eq_false_iff_not]; omega
  have hk0g : ¬ (1 + 3 * (F0.length : Int)) < 0 := by omega
  have hkq : ((1 + 3 * (F0.length : Int)) != (1 + 3 * (F0.length : Int))) = false := by simp
  go_wp2_with fail
  refine (heldGraph_any w6' FR0 FS0 _ F0.length 1 (hk0.out.read.mono (by omega)) (by omega) (by omega) (by omega)).mono ?_
  rintro e w7' ⟨rfl, hbn⟩
  have hb7 := hb6.trans (hbn.mono hb6.size)
  have hs7 := hbn.size
  replace hm0 := hidI (hm0.out.below hbn (by omega))
  replace hk0 := hidI (hk0.out.below hbn (by omega))
  replace cm00 := (hbn.cell (p := (⟨w1'.heap.size, 0, none⟩ : Addr)) (show w1'.heap.size < w6'.heap.size by omega)).trans cm00
  replace cm01 := (hbn.cell (p := (⟨w1'.heap.size, 1, none⟩ : Addr)) (show w1'.heap.size < w6'.heap.size by omega)).trans cm01
  replace cm02 := (hbn.cell (p := (⟨w1'.heap.size, 2, none⟩ : Addr)) (show w1'.heap.size < w6'.heap.size by omega)).trans cm02
  replace cg00 := (hbn.cell (p := (⟨w3'.heap.size, 0, none⟩ : Addr)) (show w3'.heap.size < w6'.heap.size by omega)).trans cg00
  replace cg01 := (hbn.cell (p := (⟨w3'.heap.size, 1, none⟩ : Addr)) (show w3'.heap.size < w6'.heap.size by omega)).trans cg01
  replace cg02 := (hbn.cell (p := (⟨w3'.heap.size, 2, none⟩ : Addr)) (show w3'.heap.size < w6'.heap.size by omega)).trans cg02
  clear hbn
  go_wp2_with fail
  refine (progWholeG w7' a0).mono ?_
  intro e w8' hpost
  rw [← hF0.out, ← hFR0.out, ← hFS0.out, ← hF1.out] at hpost
  obtain ⟨q0a, q0c, rfl, hrow0, hbn⟩ := hpost
  have hb8 := hb7.trans (hbn.mono hb7.size)
  have hs8 := hbn.size
  replace hm0 := hidI (hm0.out.below hbn (by omega))
  replace hk0 := hidI (hk0.out.below hbn (by omega))
  replace cm00 := (hbn.cell (p := (⟨w1'.heap.size, 0, none⟩ : Addr)) (show w1'.heap.size < w7'.heap.size by omega)).trans cm00
  replace cm01 := (hbn.cell (p := (⟨w1'.heap.size, 1, none⟩ : Addr)) (show w1'.heap.size < w7'.heap.size by omega)).trans cm01
  replace cm02 := (hbn.cell (p := (⟨w1'.heap.size, 2, none⟩ : Addr)) (show w1'.heap.size < w7'.heap.size by omega)).trans cm02
  replace cg00 := (hbn.cell (p := (⟨w3'.heap.size, 0, none⟩ : Addr)) (show w3'.heap.size < w7'.heap.size by omega)).trans cg00
  replace cg01 := (hbn.cell (p := (⟨w3'.heap.size, 1, none⟩ : Addr)) (show w3'.heap.size < w7'.heap.size by omega)).trans cg01
  replace cg02 := (hbn.cell (p := (⟨w3'.heap.size, 2, none⟩ : Addr)) (show w3'.heap.size < w7'.heap.size by omega)).trans cg02
  clear hbn
  have hq0 := hidI hrow0
  clear hrow0
  have dm00_9 : ∀ o : Obj, (w8'.alloc o).cell? ⟨w1'.heap.size, 0, none⟩ = some (.int .i64 FR0) := fun o => (((Below.refl w8'.heap.size w8').alloc (Nat.le_refl _) o).cell (p := (⟨w1'.heap.size, 0, none⟩ : Addr)) (show w1'.heap.size < w8'.heap.size by omega)).trans cm00
  have dm01_9 : ∀ o : Obj, (w8'.alloc o).cell? ⟨w1'.heap.size, 1, none⟩ = some (.int .i64 FS0) := fun o => (((Below.refl w8'.heap.size w8').alloc (Nat.le_refl _) o).cell (p := (⟨w1'.heap.size, 1, none⟩ : Addr)) (show w1'.heap.size < w8'.heap.size by omega)).trans cm01
  have dm02_9 : ∀ o : Obj, (w8'.alloc o).cell? ⟨w1'.heap.size, 2, none⟩ = some (.slice m0a F0.length m0c) := fun o => (((Below.refl w8'.heap.size w8').alloc (Nat.le_refl _) o).cell (p := (⟨w1'.heap.size, 2, none⟩ : Addr)) (show w1'.heap.size < w8'.heap.size by omega)).trans cm02
  have dg00_9 : ∀ o : Obj, (w8'.alloc o).cell? ⟨w3'.heap.size, 0, none⟩ = some (.int .i64 FR0) := fun o => (((Below.refl w8'.heap.size w8').alloc (Nat.le_refl _) o).cell (p := (⟨w3'.heap.size, 0, none⟩ : Addr)) (show w3'.heap.size < w8'.heap.size by omega)).trans cg00
  have dg01_9 : ∀ o : Obj, (w8'.alloc o).cell? ⟨w3'.heap.size, 1, none⟩ = some (.int .i64 FS0) := fun o => (((Below.refl w8'.heap.size w8').alloc (Nat.le_refl _) o).cell (p := (⟨w3'.heap.size, 1, none⟩ : Addr)) (show w3'.heap.size < w8'.heap.size by omega)).trans cg01
  have dg02_9 : ∀ o : Obj, (w8'.alloc o).cell? ⟨w3'.heap.size, 2, none⟩ = some (.slice g0a F0.length g0c) := fun o => (((Below.refl w8'.heap.size w8').alloc (Nat.le_refl _) o).cell (p := (⟨w3'.heap.size, 2, none⟩ : Addr)) (show w3'.heap.size < w8'.heap.size by omega)).trans cg02
  obtain ⟨w9', hw9⟩ : ∃ z, z = w8'.alloc (.cells #[.int .i64 FR0, .int .i64 FS0, .slice q0a F0.length q0c] 29) := ⟨_, rfl⟩
  have hbn : Below w8'.heap.size w8' w9' := by rw [hw9]; exact (Below.refl _ _).alloc (Nat.le_refl _) _
  have hlt9 : w8'.heap.size < w9'.heap.size := by rw [hw9]; simp
  have hnb : w9'.heap[w8'.heap.size]? = some (.cells #[.int .i64 FR0, .int .i64 FS0, .slice q0a F0.length q0c] 29 (0, 0)) := by rw [hw9]; exact heap_alloc_new _ _
  replace hw9 := hidI hw9
  have hb9 := hb8.trans (hbn.mono hb8.size)
  have hs9 := hbn.size
  replace hm0 := hidI (hm0.out.below hbn (by omega))
  replace hk0 := hidI (hk0.out.below hbn (by omega))
  replace hq0 := hidI (hq0.out.below hbn (by omega))
  replace cm00 := (hbn.cell (p := (⟨w1'.heap.size, 0, none⟩ : Addr)) (show w1'.heap.size < w8'.heap.size by omega)).trans cm00
  replace cm01 := (hbn.cell (p := (⟨w1'.heap.size, 1, none⟩ : Addr)) (show w1'.heap.size < w8'.heap.size by omega)).trans cm01
  replace cm02 := (hbn.cell (p := (⟨w1'.heap.size, 2, none⟩ : Addr)) (show w1'.heap.size < w8'.heap.size by omega)).trans cm02
  replace cg00 := (hbn.cell (p := (⟨w3'.heap.size, 0, none⟩ : Addr)) (show w3'.heap.size < w8'.heap.size by omega)).trans cg00
  replace cg01 := (hbn.cell (p := (⟨w3'.heap.size, 1, none⟩ : Addr)) (show w3'.heap.size < w8'.heap.size by omega)).trans cg01
  replace cg02 := (hbn.cell (p := (⟨w3'.heap.size, 2, none⟩ : Addr)) (show w3'.heap.size < w8'.heap.size by omega)).trans cg02
  clear hbn
  have cq00 : w9'.cell? ⟨w8'.heap.size, 0, none⟩ = some (.int .i64 FR0) := by simpa using cell_of_heap hnb 0
  have cq01 : w9'.cell? ⟨w8'.heap.size, 1, none⟩ = some (.int .i64 FS0) := by simpa using cell_of_heap hnb 1
  have cq02 : w9'.cell? ⟨w8'.heap.size, 2, none⟩ = some (.slice q0a F0.length q0c) := by simpa using cell_of_heap hnb 2
  clear hnb
  go_wp2_with fail
  try rw [← hw9.out]
  clear dm00_9 dm01_9 dm02_9 dg00_9 dg01_9 dg02_9
  refine (eqGraph_same w9' FR0 FS0 _ _ F0.length (flatE F0) (hq0.out.read.mono (by omega)) (hm0.out.read.mono (by omega))).mono ?_
  rintro e w10' ⟨rfl, hbn⟩
  have hb10 := hb9.trans (hbn.mono hb9.size)
  have hs10 := hbn.size
  replace hm0 := hidI (hm0.out.below hbn (by omega))
  replace hk0 := hidI (hk0.out.below hbn (by omega))
  replace hq0 := hidI (hq0.out.below hbn (by omega))
  replace cm00 := (hbn.cell (p := (⟨w1'.heap.size, 0, none⟩ : Addr)) (show w1'.heap.size < w9'.heap.size by omega)).trans cm00
  replace cm01 := (hbn.cell (p := (⟨w1'.heap.size, 1, none⟩ : Addr)) (show w1'.heap.size < w9'.heap.size by omega)).trans cm01
  replace cm02 := (hbn.cell (p := (⟨w1'.heap.size, 2, none⟩ : Addr)) (show w1'.heap.size < w9'.heap.size by omega)).trans cm02
  replace cg00 := (hbn.cell (p := (⟨w3'.heap.size, 0, none⟩ : Addr)) (show w3'.heap.size < w9'.heap.size by omega)).trans cg00
  replace cg01 := (hbn.cell (p := (⟨w3'.heap.size, 1, none⟩ : Addr)) (show w3'.heap.size < w9'.heap.size by omega)).trans cg01
  replace cg02 := (hbn.cell (p := (⟨w3'.heap.size, 2, none⟩ : Addr)) (show w3'.heap.size < w9'.heap.size by omega)).trans cg02
  replace cq00 := (hbn.cell (p := (⟨w8'.heap.size, 0, none⟩ : Addr)) (show w8'.heap.size < w9'.heap.size by omega)).trans cq00
  replace cq01 := (hbn.cell (p := (⟨w8'.heap.size, 1, none⟩ : Addr)) (show w8'.heap.size < w9'.heap.size by omega)).trans cq01
  replace cq02 := (hbn.cell (p := (⟨w8'.heap.size, 2, none⟩ : Addr)) (show w8'.heap.size < w9'.heap.size by omega)).trans cq02
  clear hbn
  go_wp2_with fail
  refine (heldGraph_any w10' FR0 FS0 _ F0.length 1 (hk0.out.read.mono (by omega)) (by omega) (by omega) (by omega)).mono ?_
  rintro e w11' ⟨rfl, hbn⟩
  have hb11 := hb10.trans (hbn.mono hb10.size)
  have hs11 := hbn.size
  replace hm0 := hidI (hm0.out.below hbn (by omega))
  replace hk0 := hidI (hk0.out.below hbn (by omega))
  replace hq0 := hidI (hq0.out.below hbn (by omega))
  replace cm00 := (hbn.cell (p := (⟨w1'.heap.size, 0, none⟩ : Addr)) (show w1'.heap.size < w10'.heap.size by omega)).trans cm00
  replace cm01 := (hbn.cell (p := (⟨w1'.heap.size, 1, none⟩ : Addr)) (show w1'.heap.size < w10'.heap.size by omega)).trans cm01
  replace cm02 := (hbn.cell (p := (⟨w1'.heap.size, 2, none⟩ : Addr)) (show w1'.heap.size < w10'.heap.size by omega)).trans cm02
  replace cg00 := (hbn.cell (p := (⟨w3'.heap.size, 0, none⟩ : Addr)) (show w3'.heap.size < w10'.heap.size by omega)).trans cg00
  replace cg01 := (hbn.cell (p := (⟨w3'.heap.size, 1, none⟩ : Addr)) (show w3'.heap.size < w10'.heap.size by omega)).trans cg01
  replace cg02 := (hbn.cell (p := (⟨w3'.heap.size, 2, none⟩ : Addr)) (show w3'.heap.size < w10'.heap.size by omega)).trans cg02
  replace cq00 := (hbn.cell (p := (⟨w8'.heap.size, 0, none⟩ : Addr)) (show w8'.heap.size < w10'.heap.size by omega)).trans cq00
  replace cq01 := (hbn.cell (p := (⟨w8'.heap.size, 1, none⟩ : Addr)) (show w8'.heap.size < w10'.heap.size by omega)).trans cq01
  replace cq02 := (hbn.cell (p := (⟨w8'.heap.size, 2, none⟩ : Addr)) (show w8'.heap.size < w10'.heap.size by omega)).trans cq02
  clear hbn
  go_wp2_with fail
  go_ret
  exact ⟨rfl, hb11⟩
theorem walk (a0 : Int) (w0 : (Lit.int .i64 a0).wf = true) (W : World) :
    Calls Try.prog 7 #[.int .i64 a0] W fun e w' => e = .returned (.bool true) ∧ Below W.heap.size W w' := by
  exact walk0 W a0 (wf_i64 w0)

/-! ### The row's step -/
set_option maxRecDepth 100000 in
theorem lifted (os : Os) (started : os.Started) (H : Type) (enc : TypeId × Value → H) :
    ReturnsInHanded {} Try.checked os 7 .any (Rows.fnExactWholeGroupSpec.pre6 enc Try.prog Try.f7 Rows.fnExactWholeGroupRow.domain false) (Rows.fnExactWholeGroupSpec.post enc Try.prog Try.f7 false true false false) := by
  refine returnsInHanded_of_change (C := Try.checked) own started (by kernel_rfl) Try.func7
    (ChangeSpec.witness6 (enc := enc) (C := Try.checked) false ⟨#[], #[.int .i64 0], []⟩ 8 (by kernel_rfl) (by kernel_rfl) (by kernel_rfl) (by kernel_rfl)) ?_
  intro W base args ds gs before hval0 hW hcnd _
  have hval : ∀ (j : Nat) t v, Try.f7.params[j]? = some t → args[j]? = some v → Value.okWide Try.prog W .any base t v := hval0
  have hW' := hW
  obtain ⟨p, q, hA0, hV, rfl, hfz, hnd⟩ := hW
  have hA : DataW.TrodAll enc Try.prog W 0 (fun _ => true) true Try.f7.params.toList args.toList ds p := hA0
  rw [Try.params7] at hA hval
  obtain ⟨v0, vs0, d0, ds0, p0, q0, hargs, rfl, rfl, h0, r0⟩ := trodAll_cons hA
  obtain ⟨rfl, rfl, rfl⟩ := trodAll_nil r0
  obtain rfl : args = #[v0] := by cases args; simp_all
  obtain ⟨rfl, rfl⟩ := trodVars_none hV
  obtain ⟨a0, rfl, rfl, rfl, w0⟩ := open_int Try.underlying3 (hval 0 3 v0 rfl rfl) h0
  clear hA0 hval0
  simp only [List.append_nil] at hW'
  refine (walk a0 w0 W).mono fun e W' ⟨he, hg⟩ => ?_
  subst he
  exact ⟨_, rfl, _, _, _, [], [], [], hW', trodAll_mk1 (shut_bool Try.underlying4 _), (trodAll_cons_mk (shut_int Try.underlying3 w0) trodAll_mk0), rfl, hg.frame _, fun h => by cases h⟩

theorem over : Rows.fnExactWholeGroupRow.holds Try.pinned (OpenSpec.ofChange Rows.fnExactWholeGroupSpec) :=
  OpenClaim.holds_of_wide 7 Try.f7 rfl rfl rfl rfl rfl rfl rfl ⟨rfl, rfl, rfl, rfl, rfl⟩ rfl rfl rfl rfl rfl (by kernel_rfl) Try.func7 (by kernel_rfl)
    (of_decide_eq_true (by kernel_rfl)) (by unfold Func.isWrapper; first | (rw [if_pos (by decide +kernel)]; kernel_rfl) | (rw [if_neg (by decide +kernel)]; exact ⟨rfl, rfl⟩))
    (fun os started H enc _ => lifted os started H enc)

theorem proved : Rows.FnExactWholeGroupSaid := over
#print axioms proved
end Go.Proofs.Ytjnhhhnehkmfmaa.fnExactWholeGroup
