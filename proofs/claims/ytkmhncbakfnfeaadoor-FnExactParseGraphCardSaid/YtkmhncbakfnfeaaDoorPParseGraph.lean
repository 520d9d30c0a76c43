/- For every text, laws.FnExactParseGraph returns true: the program's graph, and whether there is one, are the model's, in memory of its own. Conditions: none beyond the row's. -/
import Derived.Test.YtkmhncbakfnfeaaDoorLW3
import Derived.Test.YtkmhncbakfnfeaaDoorWGP
import Derived.Test.YtkmhncbakfnfeaaDoorTie
import Derived.Test.YtkmhncbakfnfeaaDoorCards
import Derived.WalkKit
import Derived.ProofKit
import Derived.OpenShut
import Derived.ShutString
import Derived.Below
import Derived.LaidMore
import Derived.Stop.Joined
import Derived.SevenTiedAt
import Derived.Lib.LaidTab
import Derived.Lib.AppendIntMem
import Derived.Deep.DeepCutAuto
namespace Go.Proofs.YtkmhncbakfnfeaaDoor.fnExactParseGraph
open Go.ChangeShapes Go.WideShapes Go.ChangeAt Go.RowKit
open Go.ChangeMaps (open_string shut_string)
set_option linter.unusedVariables false

theorem own : ownKnob Tryd.prog.godebug = none := by kernel_rfl

theorem laidOut : laidOutB Tryd.prog = true := by kernel_rfl
theorem walk0_big0 (w : World) (a0 : ByteArray) (m0 : (a0.size : Int) ≤ 9223372036854775807) (hbig : 1048576 < a0.size) :
    Calls Tryd.prog 4 #[.string a0] w fun e w' => e = .returned (.bool true) ∧ Below w.heap.size w w' := by
  have hbi : (1048576 : Int) < (a0.size : Int) := by omega
  go_enter Tryd.func4, Tryd.ntmps4
  go_wp2
  go_ret
  exact ⟨rfl, Below.refl _ _⟩
set_option maxHeartbeats 3200000 in
theorem walk0 (w : World) (htab : Lib.TabIs Tryd.prog w "internal/strconv.uint64pow10" .u64 Lib.pow10Tab) (mx : Int) (hmx : w.cell? ⟨0, 0, none⟩ = some (.int .i64 mx)) (a0 : ByteArray) (l0 : a0.size ≤ 1048576) :
    Calls Tryd.prog 4 #[.string a0] w fun e w' => e = .returned (.bool true) ∧ Below w.heap.size w w' := by
  have hbi0 : ¬ (1048576 : Int) < (a0.size : Int) := by omega
  obtain ⟨FR0, hFR0⟩ : ∃ F : Int, F = parR a0.data.toList := ⟨_, rfl⟩
  obtain ⟨FS0, hFS0⟩ : ∃ F : Int, F = parZ a0.data.toList := ⟨_, rfl⟩
  obtain ⟨F0, hF0⟩ : ∃ F : List Ed, F = parE a0.data.toList := ⟨_, rfl⟩
  have hfl0 : F0.length ≤ 1000000000 := by rw [hF0]; have := parE_length a0.data.toList; have h2 : a0.data.toList.length = a0.size := (by simp); omega
  replace hFR0 := hidI hFR0
  replace hFS0 := hidI hFS0
  replace hF0 := hidI hF0
  obtain ⟨F1, hF1⟩ : ∃ F, F = parB a0.data.toList := ⟨_, rfl⟩
  have hne1 : (F1 != F1) = false := by simp
  have heq1 : (F1 == F1) = true := by simp
  replace hF1 := hidI hF1
  replace htab := hidI htab
  replace hmx := hidI hmx
  have hbw := Below.refl w.heap.size w
  go_enter Tryd.func4, Tryd.ntmps4
  go_wp2_with fail
  refine (sParG a0 w l0).mono ?_
  intro e w1' hpost
  rw [← hF0.out, ← hFR0.out, ← hFS0.out, ← hF1.out] at hpost
  obtain ⟨m0a, m0c, rfl, hrow0, hbn⟩ := hpost
  have hb1 := hbw.trans (hbn.mono hbw.size)
  have hs1 := hbn.size
  clear hbn
  have hm0 := hidI hrow0
  clear hrow0
  obtain ⟨w2', hw2⟩ : ∃ z, z = w1'.alloc (.cells #[.int .i64 FR0, .int .i64 FS0, .slice m0a F0.length m0c] 29) := ⟨_, rfl⟩
  have hbn : Below w1'.heap.size w1' w2' := by rw [hw2]; exact (Below.refl _ _).alloc (Nat.le_refl _) _
  have hlt2 : w1'.heap.size < w2'.heap.size := by rw [hw2]; simp
  have hnb : w2'.heap[w1'.heap.size]? = some (.cells #[.int .i64 FR0, .int .i64 FS0, .slice m0a F0.length m0c] 29 (0, 0)) := by rw [hw2]; exact heap_alloc_new _ _
  replace hw2 := hidI hw2
  have hb2 := hb1.trans (hbn.mono hb1.size)
  have hs2 := hbn.size
  replace hm0 := hidI (hm0.out.below hbn (by omega))
  clear hbn
  have cm00 : w2'.cell? ⟨w1'.heap.size, 0, none⟩ = some (.int .i64 FR0) := by simpa using cell_of_heap hnb 0
  have cm01 : w2'.cell? ⟨w1'.heap.size, 1, none⟩ = some (.int .i64 FS0) := by simpa using cell_of_heap hnb 1
  have cm02 : w2'.cell? ⟨w1'.heap.size, 2, none⟩ = some (.slice m0a F0.length m0c) := by simpa using cell_of_heap hnb 2
  clear hnb
  go_wp2_with fail
  try rw [← hw2.out]
  refine (iParG2 w w2' hb2 a0 l0 (Tab.below htab.out hb2) mx hmx.out).mono ?_
  intro e w3' hpost
  rw [← hF0.out, ← hFR0.out, ← hFS0.out, ← hF1.out] at hpost
  obtain ⟨g0a, g0c, rfl, hrow0, hbn⟩ := hpost
  have hb3 := hb2.trans (hbn.mono hb2.size)
  have hs3 := hbn.size
  replace hm0 := hidI (hm0.out.below hbn (by omega))
  replace cm00 := (hbn.cell (p := (⟨w1'.heap.size, 0, none⟩ : Addr)) (show w1'.heap.size < w2'.heap.size by omega)).trans cm00
  replace cm01 := (hbn.cell (p := (⟨w1'.heap.size, 1, none⟩ : Addr)) (show w1'.heap.size < w2'.heap.size by omega)).trans cm01
  replace cm02 := (hbn.cell (p := (⟨w1'.heap.size, 2, none⟩ : Addr)) (show w1'.heap.size < w2'.heap.size by omega)).trans cm02
  clear hbn
  have hg0 := hidI hrow0
  clear hrow0
  have dm00 : ∀ o : Obj, (w3'.alloc o).cell? ⟨w1'.heap.size, 0, none⟩ = some (.int .i64 FR0) := fun o => (((Below.refl w3'.heap.size w3').alloc (Nat.le_refl _) o).cell (p := (⟨w1'.heap.size, 0, none⟩ : Addr)) (show w1'.heap.size < w3'.heap.size by omega)).trans cm00
  have dm01 : ∀ o : Obj, (w3'.alloc o).cell? ⟨w1'.heap.size, 1, none⟩ = some (.int .i64 FS0) := fun o => (((Below.refl w3'.heap.size w3').alloc (Nat.le_refl _) o).cell (p := (⟨w1'.heap.size, 1, none⟩ : Addr)) (show w1'.heap.size < w3'.heap.size by omega)).trans cm01
  have dm02 : ∀ o : Obj, (w3'.alloc o).cell? ⟨w1'.heap.size, 2, none⟩ = some (.slice m0a F0.length m0c) := fun o => (((Below.refl w3'.heap.size w3').alloc (Nat.le_refl _) o).cell (p := (⟨w1'.heap.size, 2, none⟩ : Addr)) (show w1'.heap.size < w3'.heap.size by omega)).trans cm02
  obtain ⟨w4', hw4⟩ : ∃ z, z = w3'.alloc (.cells #[.int .i64 FR0, .int .i64 FS0, .slice g0a F0.length g0c] 29) := ⟨_, rfl⟩
  have hbn : Below w3'.heap.size w3' w4' := by rw [hw4]; exact (Below.refl _ _).alloc (Nat.le_refl _) _
  have hlt4 : w3'.heap.size < w4'.heap.size := by rw [hw4]; simp
  have hnb : w4'.heap[w3'.heap.size]? = some (.cells #[.int .i64 FR0, .int .i64 FS0, .slice g0a F0.length g0c] 29 (0, 0)) := by rw [hw4]; exact heap_alloc_new _ _
  replace hw4 := hidI hw4
  have hb4 := hb3.trans (hbn.mono hb3.size)
  have hs4 := hbn.size
  replace hm0 := hidI (hm0.out.below hbn (by omega))
  replace hg0 := hidI (hg0.out.below hbn (by omega))
  replace cm00 := (hbn.cell (p := (⟨w1'.heap.size, 0, none⟩ : Addr)) (show w1'.heap.size < w3'.heap.size by omega)).trans cm00
  replace cm01 := (hbn.cell (p := (⟨w1'.heap.size, 1, none⟩ : Addr)) (show w1'.heap.size < w3'.heap.size by omega)).trans cm01
  replace cm02 := (hbn.cell (p := (⟨w1'.heap.size, 2, none⟩ : Addr)) (show w1'.heap.size < w3'.heap.size by omega)).trans cm02
  clear hbn
  have cg00 : w4'.cell? ⟨w3'.heap.size, 0, none⟩ = some (.int .i64 FR0) := by simpa using cell_of_heap hnb 0
  have cg01 : w4'.cell? ⟨w3'.heap.size, 1, none⟩ = some (.int .i64 FS0) := by simpa using cell_of_heap hnb 1
  have cg02 : w4'.cell? ⟨w3'.heap.size, 2, none⟩ = some (.slice g0a F0.length g0c) := by simpa using cell_of_heap hnb 2
  clear hnb
  go_wp2_with fail
  try rw [← hw4.out]
  clear dm00 dm01 dm02
  refine (eqGraph_same w4' FR0 FS0 _ _ F0.length (flatE F0) (hg0.out.read.mono (by omega)) (hm0.out.read.mono (by omega))).mono ?_
  rintro e w5' ⟨rfl, hbn⟩
  have hb5 := hb4.trans (hbn.mono hb4.size)
  have hs5 := hbn.size
  replace hm0 := hidI (hm0.out.below hbn (by omega))
  replace hg0 := hidI (hg0.out.below hbn (by omega))
  replace cm00 := (hbn.cell (p := (⟨w1'.heap.size, 0, none⟩ : Addr)) (show w1'.heap.size < w4'.heap.size by omega)).trans cm00
  replace cm01 := (hbn.cell (p := (⟨w1'.heap.size, 1, none⟩ : Addr)) (show w1'.heap.size < w4'.heap.size by omega)).trans cm01
  replace cm02 := (hbn.cell (p := (⟨w1'.heap.size, 2, none⟩ : Addr)) (show w1'.heap.size < w4'.heap.size by omega)).trans cm02
  replace cg00 := (hbn.cell (p := (⟨w3'.heap.size, 0, none⟩ : Addr)) (show w3'.heap.size < w4'.heap.size by omega)).trans cg00
  replace cg01 := (hbn.cell (p := (⟨w3'.heap.size, 1, none⟩ : Addr)) (show w3'.heap.size < w4'.heap.size by omega)).trans cg01
  replace cg02 := (hbn.cell (p := (⟨w3'.heap.size, 2, none⟩ : Addr)) (show w3'.heap.size < w4'.heap.size by omega)).trans cg02
  clear hbn
  go_wp2_with fail
  refine (markGraph_any w5' (w2'.heap.size) (w3'.heap.size) FR0 FS0 _ F0.length (flatE F0) 1 hg0.out (by omega) (by omega) (by omega) (by omega)).mono ?_
  rintro e w6' ⟨rfl, hm, wm, hbn, ho⟩
  have hbm6 := hb5.trans (hbn.mono hb5.size)
  have hsm6 := hbn.size
  replace hm0 := hidI ((hm0.out.below hbn (by omega)).only ho (by omega))
  replace cm00 := (ho.cell (p := (⟨w1'.heap.size, 0, none⟩ : Addr)) (show w1'.heap.size < w2'.heap.size ∨ w3'.heap.size ≤ w1'.heap.size by omega)).trans ((hbn.cell (p := (⟨w1'.heap.size, 0, none⟩ : Addr)) (show w1'.heap.size < w5'.heap.size by omega)).trans cm00)
  replace cm01 := (ho.cell (p := (⟨w1'.heap.size, 1, none⟩ : Addr)) (show w1'.heap.size < w2'.heap.size ∨ w3'.heap.size ≤ w1'.heap.size by omega)).trans ((hbn.cell (p := (⟨w1'.heap.size, 1, none⟩ : Addr)) (show w1'.heap.size < w5'.heap.size by omega)).trans cm01)
  replace cm02 := (ho.cell (p := (⟨w1'.heap.size, 2, none⟩ : Addr)) (show w1'.heap.size < w2'.heap.size ∨ w3'.heap.size ≤ w1'.heap.size by omega)).trans ((hbn.cell (p := (⟨w1'.heap.size, 2, none⟩ : Addr)) (show w1'.heap.size < w5'.heap.size by omega)).trans cm02)
  replace cg00 := (ho.cell (p := (⟨w3'.heap.size, 0, none⟩ : Addr)) (show w3'.heap.size < w2'.heap.size ∨ w3'.heap.size ≤ w3'.heap.size by omega)).trans ((hbn.cell (p := (⟨w3'.heap.size, 0, none⟩ : Addr)) (show w3'.heap.size < w5'.heap.size by omega)).trans cg00)
  replace cg01 := (ho.cell (p := (⟨w3'.heap.size, 1, none⟩ : Addr)) (show w3'.heap.size < w2'.heap.size ∨ w3'.heap.size ≤ w3'.heap.size by omega)).trans ((hbn.cell (p := (⟨w3'.heap.size, 1, none⟩ : Addr)) (show w3'.heap.size < w5'.heap.size by omega)).trans cg01)
  replace cg02 := (ho.cell (p := (⟨w3'.heap.size, 2, none⟩ : Addr)) (show w3'.heap.size < w2'.heap.size ∨ w3'.heap.size ≤ w3'.heap.size by omega)).trans ((hbn.cell (p := (⟨w3'.heap.size, 2, none⟩ : Addr)) (show w3'.heap.size < w5'.heap.size by omega)).trans cg02)
  have hb6 := hbm6.trans (ho.below (by omega))
  have hs6 : w5'.heap.size ≤ w6'.heap.size := by have := ho.size; omega
  clear hbn ho hbm6
  have hk0 := hidI hm
  clear hm hg0
  have hk0f : decide ((1 + 3 * (F0.length : Int)) < 0) = false := by simp; omega
  have hk0g : ¬ (1 + 3 * (F0.length : Int)) < 0 := by omega
  have hkq : ((1 + 3 * (F0.length : Int)) != (1 + 3 * (F0.length : Int))) = false := by simp
  go_wp2_with fail
  refine (heldGraph_any w6' FR0 FS0 _ F0.length 1 (hk0.out.read.mono (by omega)) (by omega) (by omega) (by omega)).mono ?_
  rintro e w7' ⟨rfl, hbn⟩
  have hb7 := hb6.trans (hbn.mono hb6.size)
  have hs7 := hbn.size
  replace hm0 := hidI (hm0.out.below hbn (by omega))
  replace hk0 := hidI (hk0.out.below hbn (by omega))
  replace cm00 := (hbn.cell (p := (⟨w1'.heap.size, 0, none⟩ : Addr)) (show w1'.heap.size < w6'.heap.size by omega)).trans cm00
  replace cm01 := (hbn.cell (p := (⟨w1'.heap.size, 1, none⟩ : Addr)) (show w1'.heap.size < w6'.heap.size by omega)).trans cm01
  replace cm02 := (hbn.cell (p := (⟨w1'.heap.size, 2, none⟩ : Addr)) (show w1'.heap.size < w6'.heap.size by omega)).trans cm02
  replace cg00 := (hbn.cell (p := (⟨w3'.heap.size, 0, none⟩ : Addr)) (show w3'.heap.size < w6'.heap.size by omega)).trans cg00
  replace cg01 := (hbn.cell (p := (⟨w3'.heap.size, 1, none⟩ : Addr)) (show w3'.heap.size < w6'.heap.size by omega)).trans cg01
  replace cg02 := (hbn.cell (p := (⟨w3'.heap.size, 2, none⟩ : Addr)) (show w3'.heap.size < w6'.heap.size by omega)).trans cg02
  clear hbn
  go_wp2_with fail
  refine (iParG2 w w7' hb7 a0 l0 (Tab.below htab.out hb7) mx hmx.out).mono ?_
  intro e w8' hpost
  rw [← hF0.out, ← hFR0.out, ← hFS0.out, ← hF1.out] at hpost
  obtain ⟨q0a, q0c, rfl, hrow0, hbn⟩ := hpost
  have hb8 := hb7.trans (hbn.mono hb7.size)
  have hs8 := hbn.size
  replace hm0 := hidI (hm0.out.below hbn (by omega))
  replace hk0 := hidI (hk0.out.below hbn (by omega))
  replace cm00 := (hbn.cell (p := (⟨w1'.heap.size, 0, none⟩ : Addr)) (show w1'.heap.size < w7'.heap.size by omega)).trans cm00
  replace cm01 := (hbn.cell (p := (⟨w1'.heap.size, 1, none⟩ : Addr)) (show w1'.heap.size < w7'.heap.size by omega)).trans cm01
  replace cm02 := (hbn.cell (p := (⟨w1'.heap.size, 2, none⟩ : Addr)) (show w1'.heap.size < w7'.heap.size by omega)).trans cm02
  replace cg00 := (hbn.cell (p := (⟨w3'.heap.size, 0, none⟩ : Addr)) (show w3'.heap.size < w7'.heap.size by omega)).trans cg00
  replace cg01 := (hbn.cell (p := (⟨w3'.heap.size, 1, none⟩ : Addr)) (show w3'.heap.size < w7'.heap.size by omega)).trans cg01
  replace cg02 := (hbn.cell (p := (⟨w3'.heap.size, 2, none⟩ : Addr)) (show w3'.heap.size < w7'.heap.size by omega)).trans cg02
  clear hbn
  have hq0 := hidI hrow0
  clear hrow0
  have dm00 : ∀ o : Obj, (w8'.alloc o).cell? ⟨w1'.heap.size, 0, none⟩ = some (.int .i64 FR0) := fun o => (((Below.refl w8'.heap.size w8').alloc (Nat.le_refl _) o).cell (p := (⟨w1'.heap.size, 0, none⟩ : Addr)) (show w1'.heap.size < w8'.heap.size by omega)).trans cm00
  have dm01 : ∀ o : Obj, (w8'.alloc o).cell? ⟨w1'.heap.size, 1, none⟩ = some (.int .i64 FS0) := fun o => (((Below.refl w8'.heap.size w8').alloc (Nat.le_refl _) o).cell (p := (⟨w1'.heap.size, 1, none⟩ : Addr)) (show w1'.heap.size < w8'.heap.size by omega)).trans cm01
  have dm02 : ∀ o : Obj, (w8'.alloc o).cell? ⟨w1'.heap.size, 2, none⟩ = some (.slice m0a F0.length m0c) := fun o => (((Below.refl w8'.heap.size w8').alloc (Nat.le_refl _) o).cell (p := (⟨w1'.heap.size, 2, none⟩ : Addr)) (show w1'.heap.size < w8'.heap.size by omega)).trans cm02
  have dg00 : ∀ o : Obj, (w8'.alloc o).cell? ⟨w3'.heap.size, 0, none⟩ = some (.int .i64 FR0) := fun o => (((Below.refl w8'.heap.size w8').alloc (Nat.le_refl _) o).cell (p := (⟨w3'.heap.size, 0, none⟩ : Addr)) (show w3'.heap.size < w8'.heap.size by omega)).trans cg00
  have dg01 : ∀ o : Obj, (w8'.alloc o).cell? ⟨w3'.heap.size, 1, none⟩ = some (.int .i64 FS0) := fun o => (((Below.refl w8'.heap.size w8').alloc (Nat.le_refl _) o).cell (p := (⟨w3'.heap.size, 1, none⟩ : Addr)) (show w3'.heap.size < w8'.heap.size by omega)).trans cg01
  have dg02 : ∀ o : Obj, (w8'.alloc o).cell? ⟨w3'.heap.size, 2, none⟩ = some (.slice g0a F0.length g0c) := fun o => (((Below.refl w8'.heap.size w8').alloc (Nat.le_refl _) o).cell (p := (⟨w3'.heap.size, 2, none⟩ : Addr)) (show w3'.heap.size < w8'.heap.size by omega)).trans cg02
  obtain ⟨w9', hw9⟩ : ∃ z, z = w8'.alloc (.cells #[.int .i64 FR0, .int .i64 FS0, .slice q0a F0.length q0c] 29) := ⟨_, rfl⟩
  have hbn : Below w8'.heap.size w8' w9' := by rw [hw9]; exact (Below.refl _ _).alloc (Nat.le_refl _) _
  have hlt9 : w8'.heap.size < w9'.heap.size := by rw [hw9]; simp
  have hnb : w9'.heap[w8'.heap.size]? = some (.cells #[.int .i64 FR0, .int .i64 FS0, .slice q0a F0.length q0c] 29 (0, 0)) := by rw [hw9]; exact heap_alloc_new _ _
  replace hw9 := hidI hw9
  have hb9 := hb8.trans (hbn.mono hb8.size)
  have hs9 := hbn.size
  replace hm0 := hidI (hm0.out.below hbn (by omega))
  replace hk0 := hidI (hk0.out.below hbn (by omega))
  replace hq0 := hidI (hq0.out.below hbn (by omega))
  replace cm00 := (hbn.cell (p := (⟨w1'.heap.size, 0, none⟩ : Addr)) (show w1'.heap.size < w8'.heap.size by omega)).trans cm00
  replace cm01 := (hbn.cell (p := (⟨w1'.heap.size, 1, none⟩ : Addr)) (show w1'.heap.size < w8'.heap.size by omega)).trans cm01
  replace cm02 := (hbn.cell (p := (⟨w1'.heap.size, 2, none⟩ : Addr)) (show w1'.heap.size < w8'.heap.size by omega)).trans cm02
  replace cg00 := (hbn.cell (p := (⟨w3'.heap.size, 0, none⟩ : Addr)) (show w3'.heap.size < w8'.heap.size by omega)).trans cg00
  replace cg01 := (hbn.cell (p := (⟨w3'.heap.size, 1, none⟩ : Addr)) (show w3'.heap.size < w8'.heap.size by omega)).trans cg01
  replace cg02 := (hbn.cell (p := (⟨w3'.heap.size, 2, none⟩ : Addr)) (show w3'.heap.size < w8'.heap.size by omega)).trans cg02
  clear hbn
  have cq00 : w9'.cell? ⟨w8'.heap.size, 0, none⟩ = some (.int .i64 FR0) := by simpa using cell_of_heap hnb 0
  have cq01 : w9'.cell? ⟨w8'.heap.size, 1, none⟩ = some (.int .i64 FS0) := by simpa using cell_of_heap hnb 1
  have cq02 : w9'.cell? ⟨w8'.heap.size, 2, none⟩ = some (.slice q0a F0.length q0c) := by simpa using cell_of_heap hnb 2
  clear hnb
  go_wp2_with fail
  try rw [← hw9.out]
  clear dm00 dm01 dm02 dg00 dg01 dg02
  refine (eqGraph_same w9' FR0 FS0 _ _ F0.length (flatE F0) (hq0.out.read.mono (by omega)) (hm0.out.read.mono (by omega))).mono ?_
  rintro e w10' ⟨rfl, hbn⟩
  have hb10 := hb9.trans (hbn.mono hb9.size)
  have hs10 := hbn.size
  replace hm0 := hidI (hm0.out.below hbn (by omega))
  replace hk0 := hidI (hk0.out.below hbn (by omega))
  replace hq0 := hidI (hq0.out.below hbn (by omega))
  replace cm00 := (hbn.cell (p := (⟨w1'.heap.size, 0, none⟩ : Addr)) (show w1'.heap.size < w9'.heap.size by omega)).trans cm00
  replace cm01 := (hbn.cell (p := (⟨w1'.heap.size, 1, none⟩ : Addr)) (show w1'.heap.size < w9'.heap.size by omega)).trans cm01
  replace cm02 := (hbn.cell (p := (⟨w1'.heap.size, 2, none⟩ : Addr)) (show w1'.heap.size < w9'.heap.size by omega)).trans cm02
  replace cg00 := (hbn.cell (p := (⟨w3'.heap.size, 0, none⟩ : Addr)) (show w3'.heap.size < w9'.heap.size by omega)).trans cg00
  replace cg01 := (hbn.cell (p := (⟨w3'.heap.size, 1, none⟩ : Addr)) (show w3'.heap.size < w9'.heap.size by omega)).trans cg01
  replace cg02 := (hbn.cell (p := (⟨w3'.heap.size, 2, none⟩ : Addr)) (show w3'.heap.size < w9'.heap.size by omega)).trans cg02
  replace cq00 := (hbn.cell (p := (⟨w8'.heap.size, 0, none⟩ : Addr)) (show w8'.heap.size < w9'.heap.size by omega)).trans cq00
  replace cq01 := (hbn.cell (p := (⟨w8'.heap.size, 1, none⟩ : Addr)) (show w8'.heap.size < w9'.heap.size by omega)).trans cq01
  replace cq02 := (hbn.cell (p := (⟨w8'.heap.size, 2, none⟩ : Addr)) (show w8'.heap.size < w9'.heap.size by omega)).trans cq02
  clear hbn
  go_wp2_with fail
  refine (heldGraph_any w10' FR0 FS0 _ F0.length 1 (hk0.out.read.mono (by omega)) (by omega) (by omega) (by omega)).mono ?_
  rintro e w11' ⟨rfl, hbn⟩
  have hb11 := hb10.trans (hbn.mono hb10.size)
  have hs11 := hbn.size
  replace hm0 := hidI (hm0.out.below hbn (by omega))
  replace hk0 := hidI (hk0.out.below hbn (by omega))
  replace hq0 := hidI (hq0.out.below hbn (by omega))
  replace cm00 := (hbn.cell (p := (⟨w1'.heap.size, 0, none⟩ : Addr)) (show w1'.heap.size < w10'.heap.size by omega)).trans cm00
  replace cm01 := (hbn.cell (p := (⟨w1'.heap.size, 1, none⟩ : Addr)) (show w1'.heap.size < w10'.heap.size by omega)).trans cm01
  replace cm02 := (hbn.cell (p := (⟨w1'.heap.size, 2, none⟩ : Addr)) (show w1'.heap.size < w10'.heap.size by omega)).trans cm02
  replace cg00 := (hbn.cell (p := (⟨w3'.heap.size, 0, none⟩ : Addr)) (show w3'.heap.size < w10'.heap.size by omega)).trans cg00
  replace cg01 := (hbn.cell (p := (⟨w3'.heap.size, 1, none⟩ : Addr)) (show w3'.heap.size < w10'.heap.size by omega)).trans cg01
  replace cg02 := (hbn.cell (p := (⟨w3'.heap.size, 2, none⟩ : Addr)) (show w3'.heap.size < w10'.heap.size by omega)).trans cg02
  replace cq00 := (hbn.cell (p := (⟨w8'.heap.size, 0, none⟩ : Addr)) (show w8'.heap.size < w10'.heap.size by omega)).trans cq00
  replace cq01 := (hbn.cell (p := (⟨w8'.heap.size, 1, none⟩ : Addr)) (show w8'.heap.size < w10'.heap.size by omega)).trans cq01
  replace cq02 := (hbn.cell (p := (⟨w8'.heap.size, 2, none⟩ : Addr)) (show w8'.heap.size < w10'.heap.size by omega)).trans cq02
  clear hbn
  go_wp2_with fail
  go_ret
  exact ⟨rfl, hb11⟩
theorem walk (a0 : ByteArray)  (W : World) (w0 : a0.size ≤ maxLen) (htab : Lib.TabIs Tryd.prog W "internal/strconv.uint64pow10" .u64 Lib.pow10Tab) (mx : Int) (hmx : W.cell? ⟨0, 0, none⟩ = some (.int .i64 mx)) :
    Calls Tryd.prog 4 #[.string a0] W fun e w' => e = .returned (.bool true) ∧ Below W.heap.size W w' := by
  by_cases s0_ : 1048576 < a0.size
  · exact walk0_big0 W a0 (by have := w0; unfold maxLen at this; omega) s0_
  exact walk0 W htab mx hmx a0 (by omega)

/-! ### The row's step -/
noncomputable def laidW (os : Os) : World :=
  let w0 := World.doorLaid Tryd.prog 34 os
  { w0 with heap := w0.heap.modify 2 fun
    | .cells _ t frozen => .cells (Go.Pinned.utf8FirstZ.map fun (z : Nat) => Value.int .u8 (z : Int)).toArray t frozen
    | o => o }
theorem door_met (os : Os) (args : Array Value) : laidMetH Tryd.prog Rows.fnExactParseGraphRow.laid ((laidW os).forCall (fun _ _ => 0) ⟨#[], args, []⟩).memory :=
  laidMetH_of_parts3 (fuel := 8) (laidMet_of_run' 8 (by kernel_rfl) (by kernel_rfl)) (by kernel_rfl) (by kernel_rfl)
theorem gPow : Tryd.prog.globalNamed "internal/strconv.uint64pow10" = some 1 := by kernel_rfl
theorem tPow : (Tryd.prog.globals[1]?).map (·.type) = some 102 := by kernel_rfl
theorem of_laid {W : World} (h : laidMetH Tryd.prog Rows.fnExactParseGraphRow.laid W) : Lib.TabIs Tryd.prog W "internal/strconv.uint64pow10" .u64 Lib.pow10Tab := by
  rw [MakeChecks.laidMetH_plain _ _ _ (by kernel_rfl)] at h
  obtain ⟨ps, ⟨_, _, _, _, _, _, _, _, _, _, ⟨_, _, _, _, _, _, _, _, _, _, ⟨g, t, cs, fuel, p, q, hg, ht, hvar, hd, _, _⟩, _⟩, _⟩, _⟩ := h
  obtain rfl := Option.some.inj (gPow.symm.trans hg)
  obtain rfl := Option.some.inj (tPow.symm.trans ht)
  unfold Lib.TabIs
  have hd' : DataW.trod (fun _ => ()) Tryd.prog W 0 (fun _ => true) false fuel 102 cs.toList = some (Lib.tabData .u64 Lib.pow10Tab, p) := hd
  rw [hvar, ← Lib.cells_of_tab Tryd.underlying102 Tryd.underlying93 (by kernel_rfl) (by kernel_rfl) hd']

set_option maxRecDepth 100000 in
theorem lifted (os : Os) (started : os.Started) (H : Type) (enc : TypeId × Value → H) :
    ReturnsInHanded {} Tryd.checked os 4 .any (fun w args => (Rows.fnExactParseGraphSpec.pre enc Tryd.prog Tryd.f4 [] false w args ∧ laidMetH Tryd.prog Rows.fnExactParseGraphRow.laid w) ∧ sizedMet enc Tryd.prog Tryd.f4 (OpenSpec.ofChange Rows.fnExactParseGraphSpec) false w args)
      (Rows.fnExactParseGraphSpec.post enc Tryd.prog Tryd.f4 false true false false) := by
  refine handed_shaped (C := Tryd.checked) (X := fun w _ => laidMetH Tryd.prog Rows.fnExactParseGraphRow.laid w) (fun _ _ _ hh h => h.of_heap hh) own started (by kernel_rfl) Tryd.func4
    (ChangeSpec.witness_shaped (enc := enc) (C := Tryd.checked) (os := os) (X := fun w _ => laidMetH Tryd.prog Rows.fnExactParseGraphRow.laid w) false (laidW os) #[.string ByteArray.empty] 8 rfl (World.shaped_of_RefB (by kernel_rfl) (by kernel_rfl)) (by kernel_rfl) (by kernel_rfl) (by kernel_rfl) (door_met os _)) ?_
  intro W base args ds gs before hval0 hW hL hsh
  have hval : ∀ (j : Nat) t v, Tryd.f4.params[j]? = some t → args[j]? = some v → Value.okWide Tryd.prog W .any base t v := hval0
  have hW' := hW
  obtain ⟨p, q, hA0, hV, rfl, hfz, hnd⟩ := hW
  have hA : DataW.TrodAll enc Tryd.prog W 0 (fun _ => true) true Tryd.f4.params.toList args.toList ds p := hA0
  rw [Tryd.params4] at hA hval
  obtain ⟨v0, vs0, d0, ds0, p0, q0, hargs, rfl, rfl, h0, r0⟩ := trodAll_cons hA
  obtain ⟨rfl, rfl, rfl⟩ := trodAll_nil r0
  obtain rfl : args = #[v0] := by cases args; simp_all
  obtain ⟨rfl, rfl⟩ := trodVars_none hV
  have htab := of_laid hL
  obtain ⟨mx, hmx⟩ := cellMax hsh
  obtain ⟨a0, rfl, rfl, rfl, w0⟩ := open_string Tryd.underlying9 (hval 0 9 v0 rfl rfl) h0
  clear hA0 hval0
  simp only [List.append_nil] at hW'
  refine (walk a0 W w0 htab mx hmx).mono fun e W' ⟨he, hg⟩ => ?_
  subst he
  exact ⟨_, rfl, _, _, _, [], [], [], hW', trodAll_mk1 (shut_bool Tryd.underlying4 _), (trodAll_cons_mk (shut_string Tryd.underlying9 w0) trodAll_mk0), rfl, hg.frame _, fun h => by cases h⟩

theorem over : Rows.FnExactParseGraphSaid :=
  OpenClaim.holds_of_wide 4 Tryd.f4 rfl rfl rfl rfl rfl rfl rfl ⟨rfl, rfl, rfl, rfl, rfl⟩ rfl rfl rfl rfl rfl (by kernel_rfl) Tryd.func4 (by kernel_rfl)
    (of_decide_eq_true (by kernel_rfl)) (by unfold Func.isWrapper; first | (rw [if_pos (by decide +kernel)]; kernel_rfl) | (rw [if_neg (by decide +kernel)]; exact ⟨rfl, rfl⟩))
    (fun os started H enc _ => lifted os started H enc)

theorem proved : Rows.FnExactParseGraphCardSaid :=
  Claim7.holds_tied_plain_at .later [] [.data, .data, .data, .data, .pinned] true (true, "2d6d34191aaad4a4cfae6c3f06a9e94f0ef6b9bc9eb57ab2a28ebbee37ba833b") false
    over (fun _ h => by cases h) (by kernel_rfl) (fun _ h => by cases h) fnExactParseGraph_row_tie rfl ⟨rfl, rfl⟩ (by kernel_rfl) rfl
    (fun f fn hf hfn => by
      obtain rfl : f = 4 := Option.some.inj ((show Tryd.prog.funcNamed "loop.example/g02075/laws.FnExactParseGraph" = some 4 by kernel_rfl).symm.trans hf) |>.symm
      obtain rfl : fn = Tryd.f4 := (Option.some.inj (Tryd.func4.symm.trans hfn)).symm
      exact ⟨by kernel_rfl, fun j t ht => by
        rw [Tryd.params4] at ht
        have hm : t ∈ [9] := by simpa using Array.mem_of_getElem? ht
        have hall : ([9].all fun u => !Tryd.prog.wantsStandIn u) = true := by kernel_rfl
        exact (show Tryd.prog.wantsStandIn t = false by simpa using List.all_eq_true.1 hall t hm)⟩)
    (by kernel_rfl)
#print axioms proved
end Go.Proofs.YtkmhncbakfnfeaaDoor.fnExactParseGraph
