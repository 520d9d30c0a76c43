/- For every graph, laws.FnExactCoreGraph returns true and leaves its arguments as they are: the program's graph is the model's, in memory of its own. Conditions: none beyond the row's. -/
import Derived.Test.YtecceaijdjnflaaGreatQB
import Derived.Test.YtecceaijdjnflaaGreatUK
import Derived.WalkKit
import Derived.ProofKit
import Derived.OpenShut
import Derived.ShutString
import Derived.Below
namespace Go.Proofs.YtecceaijdjnflaaGreat.fnExactCoreGraph
open Go.ChangeShapes Go.WideShapes Go.ChangeAt Go.RowKit
open Go.ChangeMaps (open_string shut_string)
set_option linter.unusedVariables false

theorem own : ownKnob Tryz.prog.godebug = none := by kernel_rfl

theorem laidOut : laidOutB Tryz.prog = true := by kernel_rfl
theorem walk0_big0 (w : World) (r0 s0 : Int) (a0 : Option Addr) (len0 cap0 : Nat) (m0 : (len0 : Int) ≤ 9223372036854775807) (hbig : 1048576 < len0) :
    Calls Tryz.prog 3 #[.agg #[.int .i64 r0, .int .i64 s0, .slice a0 len0 cap0]] w fun e w' => e = .returned (.bool true) ∧ Below w.heap.size w w' := by
  have hb0 := Below.refl w.heap.size w
  obtain ⟨b0, hx0⟩ : ∃ z, z = w.alloc (.cells #[.int .i64 r0, .int .i64 s0, .slice a0 len0 cap0] 24) := ⟨_, rfl⟩
  have hy0 : Below w.heap.size w b0 := by rw [hx0]; exact hb0.alloc hb0.size _
  have hnb0 : b0.heap[w.heap.size]? = some (.cells #[.int .i64 r0, .int .i64 s0, .slice a0 len0 cap0] 24 (0, 0)) := by rw [hx0]; exact heap_alloc_new _ _
  have hlt0 : w.heap.size < b0.heap.size := by rw [hx0]; simp
  have c00 := cell_of_heap hnb0 0
  simp at c00
  have c01 := cell_of_heap hnb0 1
  simp at c01
  have c02 := cell_of_heap hnb0 2
  simp at c02
  clear hnb0
  replace hx0 := hidI hx0
  go_enter Tryz.func3, Tryz.ntmps3
  go_wp2_with fail
  rw [← hx0.out]
  refine (szGraph_any b0 r0 s0 a0 len0 cap0 1048576 m0 (by omega) (by omega)).mono ?_
  rw [if_pos (by omega)]
  rintro e w1 ⟨rfl, hbn1⟩
  have hb1 := hy0.trans (hbn1.mono hy0.size)
  have hs1 := hbn1.size
  replace c00 := (hbn1.cell (p := (⟨w.heap.size, 0, none⟩ : Addr)) (show w.heap.size < b0.heap.size by omega)).trans c00
  replace c01 := (hbn1.cell (p := (⟨w.heap.size, 1, none⟩ : Addr)) (show w.heap.size < b0.heap.size by omega)).trans c01
  replace c02 := (hbn1.cell (p := (⟨w.heap.size, 2, none⟩ : Addr)) (show w.heap.size < b0.heap.size by omega)).trans c02
  go_wp2
  go_ret
  exact ⟨rfl, hb1⟩
set_option maxHeartbeats 3200000 in
theorem walk0 (w : World) (r0 s0 : Int) (v0 : Value) (es0 : List Ed) (br0 : -9223372036854775808 ≤ r0 ∧ r0 ≤ 9223372036854775807) (bs0 : -9223372036854775808 ≤ s0 ∧ s0 ≤ 9223372036854775807) (h0 : ReadE w.heap.size w v0 es0) (i0 : InE es0) (lg : es0.length ≤ 1048576) :
    Calls Tryz.prog 3 #[.agg #[.int .i64 r0, .int .i64 s0, v0]] w fun e w' => e = .returned (.bool true) ∧ Below w.heap.size w w' := by
  obtain ⟨ad0, cap0, rfl, hnc0⟩ := h0.form
  have hr0 := hidI h0
  clear h0 hnc0
  replace i0 := hidI i0
  obtain ⟨FR0, hFR0⟩ : ∃ F : Int, F = r0 := ⟨_, rfl⟩
  obtain ⟨FS0, hFS0⟩ : ∃ F : Int, F = crS r0 s0 es0 := ⟨_, rfl⟩
  obtain ⟨F0, hF0⟩ : ∃ F : List Ed, F = crE r0 s0 es0 := ⟨_, rfl⟩
  have hfl0 : F0.length ≤ 1000000000 := by rw [hF0]; have := crE_length r0 s0 es0; omega
  replace hFR0 := hidI hFR0
  replace hFS0 := hidI hFS0
  replace hF0 := hidI hF0
  have hbw := Below.refl w.heap.size w
  obtain ⟨w1', hw1⟩ : ∃ z, z = w.alloc (.cells #[.int .i64 r0, .int .i64 s0, .slice ad0 es0.length cap0] 24) := ⟨_, rfl⟩
  have hbn : Below w.heap.size w w1' := by rw [hw1]; exact (Below.refl _ _).alloc (Nat.le_refl _) _
  have hlt1 : w.heap.size < w1'.heap.size := by rw [hw1]; simp
  have hnb : w1'.heap[w.heap.size]? = some (.cells #[.int .i64 r0, .int .i64 s0, .slice ad0 es0.length cap0] 24 (0, 0)) := by rw [hw1]; exact heap_alloc_new _ _
  replace hw1 := hidI hw1
  have hb1 := hbw.trans (hbn.mono hbw.size)
  have hs1 := hbn.size
  clear hbn
  have ca00 : w1'.cell? ⟨w.heap.size, 0, none⟩ = some (.int .i64 r0) := by simpa using cell_of_heap hnb 0
  have ca01 : w1'.cell? ⟨w.heap.size, 1, none⟩ = some (.int .i64 s0) := by simpa using cell_of_heap hnb 1
  have ca02 : w1'.cell? ⟨w.heap.size, 2, none⟩ = some (.slice ad0 es0.length cap0) := by simpa using cell_of_heap hnb 2
  clear hnb
  go_enter Tryz.func3, Tryz.ntmps3
  go_wp2_with fail
  try rw [← hw1.out]
  refine (szGraph_any w1' r0 s0 _ es0.length cap0 1048576 (by omega) (by omega) (by omega)).mono ?_
  rw [if_neg (by omega)]
  rintro e w2' ⟨rfl, hbn⟩
  have hb2 := hb1.trans (hbn.mono hb1.size)
  have hs2 := hbn.size
  replace ca00 := (hbn.cell (p := (⟨w.heap.size, 0, none⟩ : Addr)) (show w.heap.size < w1'.heap.size by omega)).trans ca00
  replace ca01 := (hbn.cell (p := (⟨w.heap.size, 1, none⟩ : Addr)) (show w.heap.size < w1'.heap.size by omega)).trans ca01
  replace ca02 := (hbn.cell (p := (⟨w.heap.size, 2, none⟩ : Addr)) (show w.heap.size < w1'.heap.size by omega)).trans ca02
  clear hbn
  have hleft0 : ¬ 1048576 - (es0.length : Int) < 0 := by omega
  go_wp2_with fail
  refine (toGraph_any w2' r0 s0 _ es0.length (flatE es0) ((hr0.out.below hb2).mono hb2.size) (by omega)).mono ?_
  rintro e w3' ⟨u0a, u0c, rfl, hrow, hbn⟩
  have hb3 := hb2.trans (hbn.mono hb2.size)
  have hs3 := hbn.size
  replace ca00 := (hbn.cell (p := (⟨w.heap.size, 0, none⟩ : Addr)) (show w.heap.size < w2'.heap.size by omega)).trans ca00
  replace ca01 := (hbn.cell (p := (⟨w.heap.size, 1, none⟩ : Addr)) (show w.heap.size < w2'.heap.size by omega)).trans ca01
  replace ca02 := (hbn.cell (p := (⟨w.heap.size, 2, none⟩ : Addr)) (show w.heap.size < w2'.heap.size by omega)).trans ca02
  clear hbn
  have hu0 := hidI hrow
  clear hrow
  go_wp2_with fail
  refine (specCoreG w3' r0 s0 _ es0 (hu0.out.read.mono (by omega)) bs0 (by omega)).mono ?_
  intro e w4' hpost
  rw [← hF0.out, ← hFS0.out, ← hFR0.out] at hpost
  obtain ⟨m0a, m0c, rfl, hrow0, hbn⟩ := hpost
  have hb4 := hb3.trans (hbn.mono hb3.size)
  have hs4 := hbn.size
  replace hu0 := hidI (hu0.out.below hbn (by omega))
  replace ca00 := (hbn.cell (p := (⟨w.heap.size, 0, none⟩ : Addr)) (show w.heap.size < w3'.heap.size by omega)).trans ca00
  replace ca01 := (hbn.cell (p := (⟨w.heap.size, 1, none⟩ : Addr)) (show w.heap.size < w3'.heap.size by omega)).trans ca01
  replace ca02 := (hbn.cell (p := (⟨w.heap.size, 2, none⟩ : Addr)) (show w.heap.size < w3'.heap.size by omega)).trans ca02
  clear hbn
  have hm0 := hidI hrow0
  clear hrow0
  have da00_5 : ∀ o : Obj, (w4'.alloc o).cell? ⟨w.heap.size, 0, none⟩ = some (.int .i64 r0) := fun o => (((Below.refl w4'.heap.size w4').alloc (Nat.le_refl _) o).cell (p := (⟨w.heap.size, 0, none⟩ : Addr)) (show w.heap.size < w4'.heap.size by omega)).trans ca00
  have da01_5 : ∀ o : Obj, (w4'.alloc o).cell? ⟨w.heap.size, 1, none⟩ = some (.int .i64 s0) := fun o => (((Below.refl w4'.heap.size w4').alloc (Nat.le_refl _) o).cell (p := (⟨w.heap.size, 1, none⟩ : Addr)) (show w.heap.size < w4'.heap.size by omega)).trans ca01
  have da02_5 : ∀ o : Obj, (w4'.alloc o).cell? ⟨w.heap.size, 2, none⟩ = some (.slice ad0 es0.length cap0) := fun o => (((Below.refl w4'.heap.size w4').alloc (Nat.le_refl _) o).cell (p := (⟨w.heap.size, 2, none⟩ : Addr)) (show w.heap.size < w4'.heap.size by omega)).trans ca02
  obtain ⟨w5', hw5⟩ : ∃ z, z = w4'.alloc (.cells #[.int .i64 FR0, .int .i64 FS0, .slice m0a F0.length m0c] 28) := ⟨_, rfl⟩
  have hbn : Below w4'.heap.size w4' w5' := by rw [hw5]; exact (Below.refl _ _).alloc (Nat.le_refl _) _
  have hlt5 : w4'.heap.size < w5'.heap.size := by rw [hw5]; simp
  have hnb : w5'.heap[w4'.heap.size]? = some (.cells #[.int .i64 FR0, .int .i64 FS0, .slice m0a F0.length m0c] 28 (0, 0)) := by rw [hw5]; exact heap_alloc_new _ _
  replace hw5 := hidI hw5
  have hb5 := hb4.trans (hbn.mono hb4.size)
  have hs5 := hbn.size
  replace hu0 := hidI (hu0.out.below hbn (by omega))
  replace hm0 := hidI (hm0.out.below hbn (by omega))
  replace ca00 := (hbn.cell (p := (⟨w.heap.size, 0, none⟩ : Addr)) (show w.heap.size < w4'.heap.size by omega)).trans ca00
  replace ca01 := (hbn.cell (p := (⟨w.heap.size, 1, none⟩ : Addr)) (show w.heap.size < w4'.heap.size by omega)).trans ca01
  replace ca02 := (hbn.cell (p := (⟨w.heap.size, 2, none⟩ : Addr)) (show w.heap.size < w4'.heap.size by omega)).trans ca02
  clear hbn
  have cm00 : w5'.cell? ⟨w4'.heap.size, 0, none⟩ = some (.int .i64 FR0) := by simpa using cell_of_heap hnb 0
  have cm01 : w5'.cell? ⟨w4'.heap.size, 1, none⟩ = some (.int .i64 FS0) := by simpa using cell_of_heap hnb 1
  have cm02 : w5'.cell? ⟨w4'.heap.size, 2, none⟩ = some (.slice m0a F0.length m0c) := by simpa using cell_of_heap hnb 2
  clear hnb
  clear hu0
  go_wp2_with fail
  try rw [← hw5.out]
  clear da00_5 da01_5 da02_5
  refine (toGraph_any w5' r0 s0 _ es0.length (flatE es0) ((hr0.out.below hb5).mono hb5.size) (by omega)).mono ?_
  rintro e w6' ⟨x0a, x0c, rfl, hrow, hbn⟩
  have hb6 := hb5.trans (hbn.mono hb5.size)
  have hs6 := hbn.size
  replace hm0 := hidI (hm0.out.below hbn (by omega))
  replace ca00 := (hbn.cell (p := (⟨w.heap.size, 0, none⟩ : Addr)) (show w.heap.size < w5'.heap.size by omega)).trans ca00
  replace ca01 := (hbn.cell (p := (⟨w.heap.size, 1, none⟩ : Addr)) (show w.heap.size < w5'.heap.size by omega)).trans ca01
  replace ca02 := (hbn.cell (p := (⟨w.heap.size, 2, none⟩ : Addr)) (show w.heap.size < w5'.heap.size by omega)).trans ca02
  replace cm00 := (hbn.cell (p := (⟨w4'.heap.size, 0, none⟩ : Addr)) (show w4'.heap.size < w5'.heap.size by omega)).trans cm00
  replace cm01 := (hbn.cell (p := (⟨w4'.heap.size, 1, none⟩ : Addr)) (show w4'.heap.size < w5'.heap.size by omega)).trans cm01
  replace cm02 := (hbn.cell (p := (⟨w4'.heap.size, 2, none⟩ : Addr)) (show w4'.heap.size < w5'.heap.size by omega)).trans cm02
  clear hbn
  have hx0 := hidI hrow
  clear hrow
  have da00_7 : ∀ o : Obj, (w6'.alloc o).cell? ⟨w.heap.size, 0, none⟩ = some (.int .i64 r0) := fun o => (((Below.refl w6'.heap.size w6').alloc (Nat.le_refl _) o).cell (p := (⟨w.heap.size, 0, none⟩ : Addr)) (show w.heap.size < w6'.heap.size by omega)).trans ca00
  have da01_7 : ∀ o : Obj, (w6'.alloc o).cell? ⟨w.heap.size, 1, none⟩ = some (.int .i64 s0) := fun o => (((Below.refl w6'.heap.size w6').alloc (Nat.le_refl _) o).cell (p := (⟨w.heap.size, 1, none⟩ : Addr)) (show w.heap.size < w6'.heap.size by omega)).trans ca01
  have da02_7 : ∀ o : Obj, (w6'.alloc o).cell? ⟨w.heap.size, 2, none⟩ = some (.slice ad0 es0.length cap0) := fun o => (((Below.refl w6'.heap.size w6').alloc (Nat.le_refl _) o).cell (p := (⟨w.heap.size, 2, none⟩ : Addr)) (show w.heap.size < w6'.heap.size by omega)).trans ca02
  have dm00_7 : ∀ o : Obj, (w6'.alloc o).cell? ⟨w4'.heap.size, 0, none⟩ = some (.int .i64 FR0) := fun o => (((Below.refl w6'.heap.size w6').alloc (Nat.le_refl _) o).cell (p := (⟨w4'.heap.size, 0, none⟩ : Addr)) (show w4'.heap.size < w6'.heap.size by omega)).trans cm00
  have dm01_7 : ∀ o : Obj, (w6'.alloc o).cell? ⟨w4'.heap.size, 1, none⟩ = some (.int .i64 FS0) := fun o => (((Below.refl w6'.heap.size w6').alloc (Nat.le_refl _) o).cell (p := (⟨w4'.heap.size, 1, none⟩ : Addr)) (show w4'.heap.size < w6'.heap.size by omega)).trans cm01
  have dm02_7 : ∀ o : Obj, (w6'.alloc o).cell? ⟨w4'.heap.size, 2, none⟩ = some (.slice m0a F0.length m0c) := fun o => (((Below.refl w6'.heap.size w6').alloc (Nat.le_refl _) o).cell (p := (⟨w4'.heap.size, 2, none⟩ : Addr)) (show w4'.heap.size < w6'.heap.size by omega)).trans cm02
  obtain ⟨w7', hw7⟩ : ∃ z, z = w6'.alloc (.cells #[.int .i64 r0, .int .i64 s0, .slice x0a es0.length x0c] 28) := ⟨_, rfl⟩
  have hbn : Below w6'.heap.size w6' w7' := by rw [hw7]; exact (Below.refl _ _).alloc (Nat.le_refl _) _
  have hlt7 : w6'.heap.size < w7'.heap.size := by rw [hw7]; simp
  have hnb : w7'.heap[w6'.heap.size]? = some (.cells #[.int .i64 r0, .int .i64 s0, .slice x0a es0.length x0c] 28 (0, 0)) := by rw [hw7]; exact heap_alloc_new _ _
  replace hw7 := hidI hw7
  have hb7 := hb6.trans (hbn.mono hb6.size)
  have hs7 := hbn.size
  replace hm0 := hidI (hm0.out.below hbn (by omega))
  replace hx0 := hidI (hx0.out.below hbn (by omega))
  replace ca00 := (hbn.cell (p := (⟨w.heap.size, 0, none⟩ : Addr)) (show w.heap.size < w6'.heap.size by omega)).trans ca00
  replace ca01 := (hbn.cell (p := (⟨w.heap.size, 1, none⟩ : Addr)) (show w.heap.size < w6'.heap.size by omega)).trans ca01
  replace ca02 := (hbn.cell (p := (⟨w.heap.size, 2, none⟩ : Addr)) (show w.heap.size < w6'.heap.size by omega)).trans ca02
  replace cm00 := (hbn.cell (p := (⟨w4'.heap.size, 0, none⟩ : Addr)) (show w4'.heap.size < w6'.heap.size by omega)).trans cm00
  replace cm01 := (hbn.cell (p := (⟨w4'.heap.size, 1, none⟩ : Addr)) (show w4'.heap.size < w6'.heap.size by omega)).trans cm01
  replace cm02 := (hbn.cell (p := (⟨w4'.heap.size, 2, none⟩ : Addr)) (show w4'.heap.size < w6'.heap.size by omega)).trans cm02
  clear hbn
  have cx00 : w7'.cell? ⟨w6'.heap.size, 0, none⟩ = some (.int .i64 r0) := by simpa using cell_of_heap hnb 0
  have cx01 : w7'.cell? ⟨w6'.heap.size, 1, none⟩ = some (.int .i64 s0) := by simpa using cell_of_heap hnb 1
  have cx02 : w7'.cell? ⟨w6'.heap.size, 2, none⟩ = some (.slice x0a es0.length x0c) := by simpa using cell_of_heap hnb 2
  clear hnb
  go_wp2_with fail
  try rw [← hw7.out]
  clear da00_7 da01_7 da02_7 dm00_7 dm01_7 dm02_7
  refine (progCoreG w7' r0 s0 _ es0 (hx0.out.read.mono (by omega)) bs0 (by omega)).mono ?_
  intro e w8' hpost
  rw [← hF0.out, ← hFS0.out, ← hFR0.out] at hpost
  obtain ⟨g0a, g0c, rfl, hrow0, hbn⟩ := hpost
  have hb8 := hb7.trans (hbn.mono hb7.size)
  have hs8 := hbn.size
  replace hm0 := hidI (hm0.out.below hbn (by omega))
  replace hx0 := hidI (hx0.out.below hbn (by omega))
  replace ca00 := (hbn.cell (p := (⟨w.heap.size, 0, none⟩ : Addr)) (show w.heap.size < w7'.heap.size by omega)).trans ca00
  replace ca01 := (hbn.cell (p := (⟨w.heap.size, 1, none⟩ : Addr)) (show w.heap.size < w7'.heap.size by omega)).trans ca01
  replace ca02 := (hbn.cell (p := (⟨w.heap.size, 2, none⟩ : Addr)) (show w.heap.size < w7'.heap.size by omega)).trans ca02
  replace cm00 := (hbn.cell (p := (⟨w4'.heap.size, 0, none⟩ : Addr)) (show w4'.heap.size < w7'.heap.size by omega)).trans cm00
  replace cm01 := (hbn.cell (p := (⟨w4'.heap.size, 1, none⟩ : Addr)) (show w4'.heap.size < w7'.heap.size by omega)).trans cm01
  replace cm02 := (hbn.cell (p := (⟨w4'.heap.size, 2, none⟩ : Addr)) (show w4'.heap.size < w7'.heap.size by omega)).trans cm02
  replace cx00 := (hbn.cell (p := (⟨w6'.heap.size, 0, none⟩ : Addr)) (show w6'.heap.size < w7'.heap.size by omega)).trans cx00
  replace cx01 := (hbn.cell (p := (⟨w6'.heap.size, 1, none⟩ : Addr)) (show w6'.heap.size < w7'.heap.size by omega)).trans cx01
  replace cx02 := (hbn.cell (p := (⟨w6'.heap.size, 2, none⟩ : Addr)) (show w6'.heap.size < w7'.heap.size by omega)).trans cx02
  clear hbn
  have hg0 := hidI hrow0
  clear hrow0
  have da00_9 : ∀ o : Obj, (w8'.alloc o).cell? ⟨w.heap.size, 0, none⟩ = some (.int .i64 r0) := fun o => (((Below.refl w8'.heap.size w8').alloc (Nat.le_refl _) o).cell (p := (⟨w.heap.size, 0, none⟩ : Addr)) (show w.heap.size < w8'.heap.size by omega)).trans ca00
  have da01_9 : ∀ o : Obj, (w8'.alloc o).cell? ⟨w.heap.size, 1, none⟩ = some (.int .i64 s0) := fun o => (((Below.refl w8'.heap.size w8').alloc (Nat.le_refl _) o).cell (p := (⟨w.heap.size, 1, none⟩ : Addr)) (show w.heap.size < w8'.heap.size by omega)).trans ca01
  have da02_9 : ∀ o : Obj, (w8'.alloc o).cell? ⟨w.heap.size, 2, none⟩ = some (.slice ad0 es0.length cap0) := fun o => (((Below.refl w8'.heap.size w8').alloc (Nat.le_refl _) o).cell (p := (⟨w.heap.size, 2, none⟩ : Addr)) (show w.heap.size < w8'.heap.size by omega)).trans ca02
  have dm00_9 : ∀ o : Obj, (w8'.alloc o).cell? ⟨w4'.heap.size, 0, none⟩ = some (.int .i64 FR0) := fun o => (((Below.refl w8'.heap.size w8').alloc (Nat.le_refl _) o).cell (p := (⟨w4'.heap.size, 0, none⟩ : Addr)) (show w4'.heap.size < w8'.heap.size by omega)).trans cm00
  have dm01_9 : ∀ o : Obj, (w8'.alloc o).cell? ⟨w4'.heap.size, 1, none⟩ = some (.int .i64 FS0) := fun o => (((Below.refl w8'.heap.size w8').alloc (Nat.le_refl _) o).cell (p := (⟨w4'.heap.size, 1, none⟩ : Addr)) (show w4'.heap.size < w8'.heap.size by omega)).trans cm01
  have dm02_9 : ∀ o : Obj, (w8'.alloc o).cell? ⟨w4'.heap.size, 2, none⟩ = some (.slice m0a F0.length m0c) := fun o => (((Below.refl w8'.heap.size w8').alloc (Nat.le_refl _) o).cell (p := (⟨w4'.heap.size, 2, none⟩ : Addr)) (show w4'.heap.size < w8'.heap.size by omega)).trans cm02
  have dx00_9 : ∀ o : Obj, (w8'.alloc o).cell? ⟨w6'.heap.size, 0, none⟩ = some (.int .i64 r0) := fun o => (((Below.refl w8'.heap.size w8').alloc (Nat.le_refl _) o).cell (p := (⟨w6'.heap.size, 0, none⟩ : Addr)) (show w6'.heap.size < w8'.heap.size by omega)).trans cx00
  have dx01_9 : ∀ o : Obj, (w8'.alloc o).cell? ⟨w6'.heap.size, 1, none⟩ = some (.int .i64 s0) := fun o => (((Below.refl w8'.heap.size w8').alloc (Nat.le_refl _) o).cell (p := (⟨w6'.heap.size, 1, none⟩ : Addr)) (show w6'.heap.size < w8'.heap.size by omega)).trans cx01
  have dx02_9 : ∀ o : Obj, (w8'.alloc o).cell? ⟨w6'.heap.size, 2, none⟩ = some (.slice x0a es0.length x0c) := fun o => (((Below.refl w8'.heap.size w8').alloc (Nat.le_refl _) o).cell (p := (⟨w6'.heap.size, 2, none⟩ : Addr)) (show w6'.heap.size < w8'.heap.size by omega)).trans cx02
  obtain ⟨w9', hw9⟩ : ∃ z, z = w8'.alloc (.cells #[.int .i64 FR0, .int .i64 FS0, .slice g0a F0.length g0c] 28) := ⟨_, rfl⟩
  have hbn : Below w8'.heap.size w8' w9' := by rw [hw9]; exact (Below.refl _ _).alloc (Nat.le_refl _) _
  have hlt9 : w8'.heap.size < w9'.heap.size := by rw [hw9]; simp
  have hnb : w9'.heap[w8'.heap.size]? = some (.cells #[.int .i64 FR0, .int .i64 FS0, .slice g0a F0.length g0c] 28 (0, 0)) := by rw [hw9]; exact heap_alloc_new _ _
  replace hw9 := hidI hw9
  have hb9 := hb8.trans (hbn.mono hb8.size)
  have hs9 := hbn.size
  replace hm0 := hidI (hm0.out.below hbn (by omega))
  replace hx0 := hidI (hx0.out.below hbn (by omega))
  replace hg0 := hidI (hg0.out.below hbn (by omega))
  replace ca00 := (hbn.cell (p := (⟨w.heap.size, 0, none⟩ : Addr)) (show w.heap.size < w8'.heap.size by omega)).trans ca00
  replace ca01 := (hbn.cell (p := (⟨w.heap.size, 1, none⟩ : Addr)) (show w.heap.size < w8'.heap.size by omega)).trans ca01
  replace ca02 := (hbn.cell (p := (⟨w.heap.size, 2, none⟩ : Addr)) (show w.heap.size < w8'.heap.size by omega)).trans ca02
  replace cm00 := (hbn.cell (p := (⟨w4'.heap.size, 0, none⟩ : Addr)) (show w4'.heap.size < w8'.heap.size by omega)).trans cm00
  replace cm01 := (hbn.cell (p := (⟨w4'.heap.size, 1, none⟩ : Addr)) (show w4'.heap.size < w8'.heap.size by omega)).trans cm01
  replace cm02 := (hbn.cell (p := (⟨w4'.heap.size, 2, none⟩ : Addr)) (show w4'.heap.size < w8'.heap.size by omega)).trans cm02
  replace cx00 := (hbn.cell (p := (⟨w6'.heap.size, 0, none⟩ : Addr)) (show w6'.heap.size < w8'.heap.size by omega)).trans cx00
  replace cx01 := (hbn.cell (p := (⟨w6'.heap.size, 1, none⟩ : Addr)) (show w6'.heap.size < w8'.heap.size by omega)).trans cx01
  replace cx02 := (hbn.cell (p := (⟨w6'.heap.size, 2, none⟩ : Addr)) (show w6'.heap.size < w8'.heap.size by omega)).trans cx02
  clear hbn
  have cg00 : w9'.cell? ⟨w8'.heap.size, 0, none⟩ = some (.int .i64 FR0) := by simpa using cell_of_heap hnb 0
  have cg01 : w9'.cell? ⟨w8'.heap.size, 1, none⟩ = some (.int .i64 FS0) := by simpa using cell_of_heap hnb 1
  have cg02 : w9'.cell? ⟨w8'.heap.size, 2, none⟩ = some (.slice g0a F0.length g0c) := by simpa using cell_of_heap hnb 2
  clear hnb
  go_wp2_with fail
  try rw [← hw9.out]
  clear da00_9 da01_9 da02_9 dm00_9 dm01_9 dm02_9 dx00_9 dx01_9 dx02_9
  refine (eqGraph_same w9' FR0 FS0 _ _ F0.length (flatE F0) (hg0.out.read.mono (by omega)) (hm0.out.read.mono (by omega))).mono ?_
  rintro e w10' ⟨rfl, hbn⟩
  have hb10 := hb9.trans (hbn.mono hb9.size)
  have hs10 := hbn.size
  replace hm0 := hidI (hm0.out.below hbn (by omega))
  replace hx0 := hidI (hx0.out.below hbn (by omega))
  replace hg0 := hidI (hg0.out.below hbn (by omega))
  replace ca00 := (hbn.cell (p := (⟨w.heap.size, 0, none⟩ : Addr)) (show w.heap.size < w9'.heap.size by omega)).trans ca00
  replace ca01 := (hbn.cell (p := (⟨w.heap.size, 1, none⟩ : Addr)) (show w.heap.size < w9'.heap.size by omega)).trans ca01
  replace ca02 := (hbn.cell (p := (⟨w.heap.size, 2, none⟩ : Addr)) (show w.heap.size < w9'.heap.size by omega)).trans ca02
  replace cm00 := (hbn.cell (p := (⟨w4'.heap.size, 0, none⟩ : Addr)) (show w4'.heap.size < w9'.heap.size by omega)).trans cm00
  replace cm01 := (hbn.cell (p := (⟨w4'.heap.size, 1, none⟩ : Addr)) (show w4'.heap.size < w9'.heap.size by omega)).trans cm01
  replace cm02 := (hbn.cell (p := (⟨w4'.heap.size, 2, none⟩ : Addr)) (show w4'.heap.size < w9'.heap.size by omega)).trans cm02
  replace cx00 := (hbn.cell (p := (⟨w6'.heap.size, 0, none⟩ : Addr)) (show w6'.heap.size < w9'.heap.size by omega)).trans cx00
  replace cx01 := (hbn.cell (p := (⟨w6'.heap.size, 1, none⟩ : Addr)) (show w6'.heap.size < w9'.heap.size by omega)).trans cx01
  replace cx02 := (hbn.cell (p := (⟨w6'.heap.size, 2, none⟩ : Addr)) (show w6'.heap.size < w9'.heap.size by omega)).trans cx02
  replace cg00 := (hbn.cell (p := (⟨w8'.heap.size, 0, none⟩ : Addr)) (show w8'.heap.size < w9'.heap.size by omega)).trans cg00
  replace cg01 := (hbn.cell (p := (⟨w8'.heap.size, 1, none⟩ : Addr)) (show w8'.heap.size < w9'.heap.size by omega)).trans cg01
  replace cg02 := (hbn.cell (p := (⟨w8'.heap.size, 2, none⟩ : Addr)) (show w8'.heap.size < w9'.heap.size by omega)).trans cg02
  clear hbn
  go_wp2_with fail
  have hdr := below_dn (Below.refl w10'.heap.size w10') 1
  have hcg := toGraph_any w10'.drew r0 s0 _ es0.length (flatE es0) (((hr0.out.below hb10).below (hdr.mono hb10.size)).mono hb10.size) (by omega)
  go_region_held3 (fun z => z.cell? ⟨w6'.heap.size, 0, none⟩ = some (.int .i64 r0) ∧ z.cell? ⟨w6'.heap.size, 1, none⟩ = some (.int .i64 s0) ∧ z.cell? ⟨w6'.heap.size, 2, none⟩ = some (.slice x0a es0.length x0c) ∧ z.cell? ⟨w.heap.size, 0, none⟩ = some (.int .i64 r0) ∧ z.cell? ⟨w.heap.size, 1, none⟩ = some (.int .i64 s0) ∧ z.cell? ⟨w.heap.size, 2, none⟩ = some (.slice ad0 es0.length cap0)) (first | ((repeat' apply And.intro) <;> assumption) | go_keep) (first | (go_at_call 6; (with_reducible refine hcg.mono ?_); rintro e w11' ⟨ta, tc, rfl, hrow, hbn⟩; replace hbn := hdr.trans hbn; have hb11 := hb10.trans (hbn.mono hb10.size); have hs11 := hbn.size; replace hm0 := hidI (hm0.out.below hbn (by omega)); replace hx0 := hidI (hx0.out.below hbn (by omega)); replace hg0 := hidI (hg0.out.below hbn (by omega)); replace ca00 := (hbn.cell (p := (⟨w.heap.size, 0, none⟩ : Addr)) (show w.heap.size < w10'.heap.size by omega)).trans ca00; replace ca01 := (hbn.cell (p := (⟨w.heap.size, 1, none⟩ : Addr)) (show w.heap.size < w10'.heap.size by omega)).trans ca01; replace ca02 := (hbn.cell (p := (⟨w.heap.size, 2, none⟩ : Addr)) (show w.heap.size < w10'.heap.size by omega)).trans ca02; replace cm00 := (hbn.cell (p := (⟨w4'.heap.size, 0, none⟩ : Addr)) (show w4'.heap.size < w10'.heap.size by omega)).trans cm00; replace cm01 := (hbn.cell (p := (⟨w4'.heap.size, 1, none⟩ : Addr)) (show w4'.heap.size < w10'.heap.size by omega)).trans cm01; replace cm02 := (hbn.cell (p := (⟨w4'.heap.size, 2, none⟩ : Addr)) (show w4'.heap.size < w10'.heap.size by omega)).trans cm02; replace cx00 := (hbn.cell (p := (⟨w6'.heap.size, 0, none⟩ : Addr)) (show w6'.heap.size < w10'.heap.size by omega)).trans cx00; replace cx01 := (hbn.cell (p := (⟨w6'.heap.size, 1, none⟩ : Addr)) (show w6'.heap.size < w10'.heap.size by omega)).trans cx01; replace cx02 := (hbn.cell (p := (⟨w6'.heap.size, 2, none⟩ : Addr)) (show w6'.heap.size < w10'.heap.size by omega)).trans cx02; replace cg00 := (hbn.cell (p := (⟨w8'.heap.size, 0, none⟩ : Addr)) (show w8'.heap.size < w10'.heap.size by omega)).trans cg00; replace cg01 := (hbn.cell (p := (⟨w8'.heap.size, 1, none⟩ : Addr)) (show w8'.heap.size < w10'.heap.size by omega)).trans cg01; replace cg02 := (hbn.cell (p := (⟨w8'.heap.size, 2, none⟩ : Addr)) (show w8'.heap.size < w10'.heap.size by omega)).trans cg02; have hce := eqGraph_same w11' r0 s0 _ _ es0.length (flatE es0) (hx0.out.read.mono (by omega)) (hrow.read.mono (by omega)); clear hbn hcg) | (go_at_call 8; (with_reducible refine hce.mono ?_); rintro e w12' ⟨rfl, hbn⟩; have hb12 := hb11.trans (hbn.mono hb11.size); have hs12 := hbn.size; replace hm0 := hidI (hm0.out.below hbn (by omega)); replace hx0 := hidI (hx0.out.below hbn (by omega)); replace hg0 := hidI (hg0.out.below hbn (by omega)); replace ca00 := (hbn.cell (p := (⟨w.heap.size, 0, none⟩ : Addr)) (show w.heap.size < w11'.heap.size by omega)).trans ca00; replace ca01 := (hbn.cell (p := (⟨w.heap.size, 1, none⟩ : Addr)) (show w.heap.size < w11'.heap.size by omega)).trans ca01; replace ca02 := (hbn.cell (p := (⟨w.heap.size, 2, none⟩ : Addr)) (show w.heap.size < w11'.heap.size by omega)).trans ca02; replace cm00 := (hbn.cell (p := (⟨w4'.heap.size, 0, none⟩ : Addr)) (show w4'.heap.size < w11'.heap.size by omega)).trans cm00; replace cm01 := (hbn.cell (p := (⟨w4'.heap.size, 1, none⟩ : Addr)) (show w4'.heap.size < w11'.heap.size by omega)).trans cm01; replace cm02 := (hbn.cell (p := (⟨w4'.heap.size, 2, none⟩ : Addr)) (show w4'.heap.size < w11'.heap.size by omega)).trans cm02; replace cx00 := (hbn.cell (p := (⟨w6'.heap.size, 0, none⟩ : Addr)) (show w6'.heap.size < w11'.heap.size by omega)).trans cx00; replace cx01 := (hbn.cell (p := (⟨w6'.heap.size, 1, none⟩ : Addr)) (show w6'.heap.size < w11'.heap.size by omega)).trans cx01; replace cx02 := (hbn.cell (p := (⟨w6'.heap.size, 2, none⟩ : Addr)) (show w6'.heap.size < w11'.heap.size by omega)).trans cx02; replace cg00 := (hbn.cell (p := (⟨w8'.heap.size, 0, none⟩ : Addr)) (show w8'.heap.size < w11'.heap.size by omega)).trans cg00; replace cg01 := (hbn.cell (p := (⟨w8'.heap.size, 1, none⟩ : Addr)) (show w8'.heap.size < w11'.heap.size by omega)).trans cg01; replace cg02 := (hbn.cell (p := (⟨w8'.heap.size, 2, none⟩ : Addr)) (show w8'.heap.size < w11'.heap.size by omega)).trans cg02; clear hbn hce hrow))
  go_wp2_with fail
  refine (markGraph_any w12' (w5'.heap.size) (w6'.heap.size) r0 s0 _ es0.length (flatE es0) 1 hx0.out (by omega) (by omega) (by omega) (by omega)).mono ?_
  rintro e w13' ⟨rfl, hm, wm, hbn, ho⟩
  have hbm13 := hb12.trans (hbn.mono hb12.size)
  have hsm13 := hbn.size
  replace hm0 := hidI ((hm0.out.below hbn (by omega)).only ho (by omega))
  replace hg0 := hidI ((hg0.out.below hbn (by omega)).only ho (by omega))
  replace ca00 := (ho.cell (p := (⟨w.heap.size, 0, none⟩ : Addr)) (show w.heap.size < w5'.heap.size ∨ w6'.heap.size ≤ w.heap.size by omega)).trans ((hbn.cell (p := (⟨w.heap.size, 0, none⟩ : Addr)) (show w.heap.size < w12'.heap.size by omega)).trans ca00)
  replace ca01 := (ho.cell (p := (⟨w.heap.size, 1, none⟩ : Addr)) (show w.heap.size < w5'.heap.size ∨ w6'.heap.size ≤ w.heap.size by omega)).trans ((hbn.cell (p := (⟨w.heap.size, 1, none⟩ : Addr)) (show w.heap.size < w12'.heap.size by omega)).trans ca01)
  replace ca02 := (ho.cell (p := (⟨w.heap.size, 2, none⟩ : Addr)) (show w.heap.size < w5'.heap.size ∨ w6'.heap.size ≤ w.heap.size by omega)).trans ((hbn.cell (p := (⟨w.heap.size, 2, none⟩ : Addr)) (show w.heap.size < w12'.heap.size by omega)).trans ca02)
  replace cm00 := (ho.cell (p := (⟨w4'.heap.size, 0, none⟩ : Addr)) (show w4'.heap.size < w5'.heap.size ∨ w6'.heap.size ≤ w4'.heap.size by omega)).trans ((hbn.cell (p := (⟨w4'.heap.size, 0, none⟩ : Addr)) (show w4'.heap.size < w12'.heap.size by omega)).trans cm00)
  replace cm01 := (ho.cell (p := (⟨w4'.heap.size, 1, none⟩ : Addr)) (show w4'.heap.size < w5'.heap.size ∨ w6'.heap.size ≤ w4'.heap.size by omega)).trans ((hbn.cell (p := (⟨w4'.heap.size, 1, none⟩ : Addr)) (show w4'.heap.size < w12'.heap.size by omega)).trans cm01)
  replace cm02 := (ho.cell (p := (⟨w4'.heap.size, 2, none⟩ : Addr)) (show w4'.heap.size < w5'.heap.size ∨ w6'.heap.size ≤ w4'.heap.size by omega)).trans ((hbn.cell (p := (⟨w4'.heap.size, 2, none⟩ : Addr)) (show w4'.heap.size < w12'.heap.size by omega)).trans cm02)
  replace cx00 := (ho.cell (p := (⟨w6'.heap.size, 0, none⟩ : Addr)) (show w6'.heap.size < w5'.heap.size ∨ w6'.heap.size ≤ w6'.heap.size by omega)).trans ((hbn.cell (p := (⟨w6'.heap.size, 0, none⟩ : Addr)) (show w6'.heap.size < w12'.heap.size by omega)).trans cx00)
  replace cx01 := (ho.cell (p := (⟨w6'.heap.size, 1, none⟩ : Addr)) (show w6'.heap.size < w5'.heap.size ∨ w6'.heap.size ≤ w6'.heap.size by omega)).trans ((hbn.cell (p := (⟨w6'.heap.size, 1, none⟩ : Addr)) (show w6'.heap.size < w12'.heap.size by omega)).trans cx01)
  replace cx02 := (ho.cell (p := (⟨w6'.heap.size, 2, none⟩ : Addr)) (show w6'.heap.size < w5'.heap.size ∨ w6'.heap.size ≤ w6'.heap.size by omega)).trans ((hbn.cell (p := (⟨w6'.heap.size, 2, none⟩ : Addr)) (show w6'.heap.size < w12'.heap.size by omega)).trans cx02)
  replace cg00 := (ho.cell (p := (⟨w8'.heap.size, 0, none⟩ : Addr)) (show w8'.heap.size < w5'.heap.size ∨ w6'.heap.size ≤ w8'.heap.size by omega)).trans ((hbn.cell (p := (⟨w8'.heap.size, 0, none⟩ : Addr)) (show w8'.heap.size < w12'.heap.size by omega)).trans cg00)
  replace cg01 := (ho.cell (p := (⟨w8'.heap.size, 1, none⟩ : Addr)) (show w8'.heap.size < w5'.heap.size ∨ w6'.heap.size ≤ w8'.heap.size by omega)).trans ((hbn.cell (p := (⟨w8'.heap.size, 1, none⟩ : Addr)) (show w8'.heap.size < w12'.heap.size by omega)).trans cg01)
  replace cg02 := (ho.cell (p := (⟨w8'.heap.size, 2, none⟩ : Addr)) (show w8'.heap.size < w5'.heap.size ∨ w6'.heap.size ≤ w8'.heap.size by omega)).trans ((hbn.cell (p := (⟨w8'.heap.size, 2, none⟩ : Addr)) (show w8'.heap.size < w12'.heap.size by omega)).trans cg02)
  have hb13 := hbm13.trans (ho.below (by omega))
  have hs13 : w12'.heap.size ≤ w13'.heap.size := by have := ho.size; omega
  clear hbn ho hbm13
  clear hm hx0
  clear cx00 cx01 cx02
  have hkk : decide ((1 + 3 * (es0.length : Int)) < 0) = false := by rw [decide_eq_false_iff_not]; omega
  have hkk2 : ¬ (1 + 3 * (es0.length : Int)) < 0 := by omega
  go_wp2_with fail
  refine (eqGraph_same w13' FR0 FS0 _ _ F0.length (flatE F0) (hg0.out.read.mono (by omega)) (hm0.out.read.mono (by omega))).mono ?_
  rintro e w14' ⟨rfl, hbn⟩
  have hb14 := hb13.trans (hbn.mono hb13.size)
  have hs14 := hbn.size
  replace hm0 := hidI (hm0.out.below hbn (by omega))
  replace hg0 := hidI (hg0.out.below hbn (by omega))
  replace ca00 := (hbn.cell (p := (⟨w.heap.size, 0, none⟩ : Addr)) (show w.heap.size < w13'.heap.size by omega)).trans ca00
  replace ca01 := (hbn.cell (p := (⟨w.heap.size, 1, none⟩ : Addr)) (show w.heap.size < w13'.heap.size by omega)).trans ca01
  replace ca02 := (hbn.cell (p := (⟨w.heap.size, 2, none⟩ : Addr)) (show w.heap.size < w13'.heap.size by omega)).trans ca02
  replace cm00 := (hbn.cell (p := (⟨w4'.heap.size, 0, none⟩ : Addr)) (show w4'.heap.size < w13'.heap.size by omega)).trans cm00
  replace cm01 := (hbn.cell (p := (⟨w4'.heap.size, 1, none⟩ : Addr)) (show w4'.heap.size < w13'.heap.size by omega)).trans cm01
  replace cm02 := (hbn.cell (p := (⟨w4'.heap.size, 2, none⟩ : Addr)) (show w4'.heap.size < w13'.heap.size by omega)).trans cm02
  replace cg00 := (hbn.cell (p := (⟨w8'.heap.size, 0, none⟩ : Addr)) (show w8'.heap.size < w13'.heap.size by omega)).trans cg00
  replace cg01 := (hbn.cell (p := (⟨w8'.heap.size, 1, none⟩ : Addr)) (show w8'.heap.size < w13'.heap.size by omega)).trans cg01
  replace cg02 := (hbn.cell (p := (⟨w8'.heap.size, 2, none⟩ : Addr)) (show w8'.heap.size < w13'.heap.size by omega)).trans cg02
  clear hbn
  go_wp2_with fail
  refine (markGraph_any w14' (w7'.heap.size) (w8'.heap.size) FR0 FS0 _ F0.length (flatE F0) 1 hg0.out (by omega) (by omega) (by omega) (by omega)).mono ?_
  rintro e w15' ⟨rfl, hm, wm, hbn, ho⟩
  have hbm15 := hb14.trans (hbn.mono hb14.size)
  have hsm15 := hbn.size
  replace hm0 := hidI ((hm0.out.below hbn (by omega)).only ho (by omega))
  replace ca00 := (ho.cell (p := (⟨w.heap.size, 0, none⟩ : Addr)) (show w.heap.size < w7'.heap.size ∨ w8'.heap.size ≤ w.heap.size by omega)).trans ((hbn.cell (p := (⟨w.heap.size, 0, none⟩ : Addr)) (show w.heap.size < w14'.heap.size by omega)).trans ca00)
  replace ca01 := (ho.cell (p := (⟨w.heap.size, 1, none⟩ : Addr)) (show w.heap.size < w7'.heap.size ∨ w8'.heap.size ≤ w.heap.size by omega)).trans ((hbn.cell (p := (⟨w.heap.size, 1, none⟩ : Addr)) (show w.heap.size < w14'.heap.size by omega)).trans ca01)
  replace ca02 := (ho.cell (p := (⟨w.heap.size, 2, none⟩ : Addr)) (show w.heap.size < w7'.heap.size ∨ w8'.heap.size ≤ w.heap.size by omega)).trans ((hbn.cell (p := (⟨w.heap.size, 2, none⟩ : Addr)) (show w.heap.size < w14'.heap.size by omega)).trans ca02)
  replace cm00 := (ho.cell (p := (⟨w4'.heap.size, 0, none⟩ : Addr)) (show w4'.heap.size < w7'.heap.size ∨ w8'.heap.size ≤ w4'.heap.size by omega)).trans ((hbn.cell (p := (⟨w4'.heap.size, 0, none⟩ : Addr)) (show w4'.heap.size < w14'.heap.size by omega)).trans cm00)
  replace cm01 := (ho.cell (p := (⟨w4'.heap.size, 1, none⟩ : Addr)) (show w4'.heap.size < w7'.heap.size ∨ w8'.heap.size ≤ w4'.heap.size by omega)).trans ((hbn.cell (p := (⟨w4'.heap.size, 1, none⟩ : Addr)) (show w4'.heap.size < w14'.heap.size by omega)).trans cm01)
  replace cm02 := (ho.cell (p := (⟨w4'.heap.size, 2, none⟩ : Addr)) (show w4'.heap.size < w7'.heap.size ∨ w8'.heap.size ≤ w4'.heap.size by omega)).trans ((hbn.cell (p := (⟨w4'.heap.size, 2, none⟩ : Addr)) (show w4'.heap.size < w14'.heap.size by omega)).trans cm02)
  replace cg00 := (ho.cell (p := (⟨w8'.heap.size, 0, none⟩ : Addr)) (show w8'.heap.size < w7'.heap.size ∨ w8'.heap.size ≤ w8'.heap.size by omega)).trans ((hbn.cell (p := (⟨w8'.heap.size, 0, none⟩ : Addr)) (show w8'.heap.size < w14'.heap.size by omega)).trans cg00)
  replace cg01 := (ho.cell (p := (⟨w8'.heap.size, 1, none⟩ : Addr)) (show w8'.heap.size < w7'.heap.size ∨ w8'.heap.size ≤ w8'.heap.size by omega)).trans ((hbn.cell (p := (⟨w8'.heap.size, 1, none⟩ : Addr)) (show w8'.heap.size < w14'.heap.size by omega)).trans cg01)
  replace cg02 := (ho.cell (p := (⟨w8'.heap.size, 2, none⟩ : Addr)) (show w8'.heap.size < w7'.heap.size ∨ w8'.heap.size ≤ w8'.heap.size by omega)).trans ((hbn.cell (p := (⟨w8'.heap.size, 2, none⟩ : Addr)) (show w8'.heap.size < w14'.heap.size by omega)).trans cg02)
  have hb15 := hbm15.trans (ho.below (by omega))
  have hs15 : w14'.heap.size ≤ w15'.heap.size := by have := ho.size; omega
  clear hbn ho hbm15
  have hk0 := hidI hm
  clear hm hg0
  have hk0f : decide ((1 + 3 * (F0.length : Int)) < 0) = false := by rw [decide_eq_false_iff_not]; omega
  have hk0g : ¬ (1 + 3 * (F0.length : Int)) < 0 := by omega
  have hkq : ((1 + 3 * (F0.length : Int)) != (1 + 3 * (F0.length : Int))) = false := by simp
  go_wp2_with fail
  refine (heldGraph_any w15' FR0 FS0 _ F0.length 1 (hk0.out.read.mono (by omega)) (by omega) (by omega) (by omega)).mono ?_
  rintro e w16' ⟨rfl, hbn⟩
  have hb16 := hb15.trans (hbn.mono hb15.size)
  have hs16 := hbn.size
  replace hm0 := hidI (hm0.out.below hbn (by omega))
  replace hk0 := hidI (hk0.out.below hbn (by omega))
  replace ca00 := (hbn.cell (p := (⟨w.heap.size, 0, none⟩ : Addr)) (show w.heap.size < w15'.heap.size by omega)).trans ca00
  replace ca01 := (hbn.cell (p := (⟨w.heap.size, 1, none⟩ : Addr)) (show w.heap.size < w15'.heap.size by omega)).trans ca01
  replace ca02 := (hbn.cell (p := (⟨w.heap.size, 2, none⟩ : Addr)) (show w.heap.size < w15'.heap.size by omega)).trans ca02
  replace cm00 := (hbn.cell (p := (⟨w4'.heap.size, 0, none⟩ : Addr)) (show w4'.heap.size < w15'.heap.size by omega)).trans cm00
  replace cm01 := (hbn.cell (p := (⟨w4'.heap.size, 1, none⟩ : Addr)) (show w4'.heap.size < w15'.heap.size by omega)).trans cm01
  replace cm02 := (hbn.cell (p := (⟨w4'.heap.size, 2, none⟩ : Addr)) (show w4'.heap.size < w15'.heap.size by omega)).trans cm02
  replace cg00 := (hbn.cell (p := (⟨w8'.heap.size, 0, none⟩ : Addr)) (show w8'.heap.size < w15'.heap.size by omega)).trans cg00
  replace cg01 := (hbn.cell (p := (⟨w8'.heap.size, 1, none⟩ : Addr)) (show w8'.heap.size < w15'.heap.size by omega)).trans cg01
  replace cg02 := (hbn.cell (p := (⟨w8'.heap.size, 2, none⟩ : Addr)) (show w8'.heap.size < w15'.heap.size by omega)).trans cg02
  clear hbn
  go_wp2_with fail
  refine (toGraph_any w16' r0 s0 _ es0.length (flatE es0) ((hr0.out.below hb16).mono hb16.size) (by omega)).mono ?_
  rintro e w17' ⟨y0a, y0c, rfl, hrow, hbn⟩
  have hb17 := hb16.trans (hbn.mono hb16.size)
  have hs17 := hbn.size
  replace hm0 := hidI (hm0.out.below hbn (by omega))
  replace hk0 := hidI (hk0.out.below hbn (by omega))
  replace ca00 := (hbn.cell (p := (⟨w.heap.size, 0, none⟩ : Addr)) (show w.heap.size < w16'.heap.size by omega)).trans ca00
  replace ca01 := (hbn.cell (p := (⟨w.heap.size, 1, none⟩ : Addr)) (show w.heap.size < w16'.heap.size by omega)).trans ca01
  replace ca02 := (hbn.cell (p := (⟨w.heap.size, 2, none⟩ : Addr)) (show w.heap.size < w16'.heap.size by omega)).trans ca02
  replace cm00 := (hbn.cell (p := (⟨w4'.heap.size, 0, none⟩ : Addr)) (show w4'.heap.size < w16'.heap.size by omega)).trans cm00
  replace cm01 := (hbn.cell (p := (⟨w4'.heap.size, 1, none⟩ : Addr)) (show w4'.heap.size < w16'.heap.size by omega)).trans cm01
  replace cm02 := (hbn.cell (p := (⟨w4'.heap.size, 2, none⟩ : Addr)) (show w4'.heap.size < w16'.heap.size by omega)).trans cm02
  replace cg00 := (hbn.cell (p := (⟨w8'.heap.size, 0, none⟩ : Addr)) (show w8'.heap.size < w16'.heap.size by omega)).trans cg00
  replace cg01 := (hbn.cell (p := (⟨w8'.heap.size, 1, none⟩ : Addr)) (show w8'.heap.size < w16'.heap.size by omega)).trans cg01
  replace cg02 := (hbn.cell (p := (⟨w8'.heap.size, 2, none⟩ : Addr)) (show w8'.heap.size < w16'.heap.size by omega)).trans cg02
  clear hbn
  have hy0 := hidI hrow
  clear hrow
  go_wp2_with fail
  refine (progCoreG w17' r0 s0 _ es0 (hy0.out.read.mono (by omega)) bs0 (by omega)).mono ?_
  intro e w18' hpost
  rw [← hF0.out, ← hFS0.out, ← hFR0.out] at hpost
  obtain ⟨q0a, q0c, rfl, hrow0, hbn⟩ := hpost
  have hb18 := hb17.trans (hbn.mono hb17.size)
  have hs18 := hbn.size
  replace hm0 := hidI (hm0.out.below hbn (by omega))
  replace hk0 := hidI (hk0.out.below hbn (by omega))
  replace hy0 := hidI (hy0.out.below hbn (by omega))
  replace ca00 := (hbn.cell (p := (⟨w.heap.size, 0, none⟩ : Addr)) (show w.heap.size < w17'.heap.size by omega)).trans ca00
  replace ca01 := (hbn.cell (p := (⟨w.heap.size, 1, none⟩ : Addr)) (show w.heap.size < w17'.heap.size by omega)).trans ca01
  replace ca02 := (hbn.cell (p := (⟨w.heap.size, 2, none⟩ : Addr)) (show w.heap.size < w17'.heap.size by omega)).trans ca02
  replace cm00 := (hbn.cell (p := (⟨w4'.heap.size, 0, none⟩ : Addr)) (show w4'.heap.size < w17'.heap.size by omega)).trans cm00
  replace cm01 := (hbn.cell (p := (⟨w4'.heap.size, 1, none⟩ : Addr)) (show w4'.heap.size < w17'.heap.size by omega)).trans cm01
  replace cm02 := (hbn.cell (p := (⟨w4'.heap.size, 2, none⟩ : Addr)) (show w4'.heap.size < w17'.heap.size by omega)).trans cm02
  replace cg00 := (hbn.cell (p := (⟨w8'.heap.size, 0, none⟩ : Addr)) (show w8'.heap.size < w17'.heap.size by omega)).trans cg00
  replace cg01 := (hbn.cell (p := (⟨w8'.heap.size, 1, none⟩ : Addr)) (show w8'.heap.size < w17'.heap.size by omega)).trans cg01
  replace cg02 := (hbn.cell (p := (⟨w8'.heap.size, 2, none⟩ : Addr)) (show w8'.heap.size < w17'.heap.size by omega)).trans cg02
  clear hbn
  have hq0 := hidI hrow0
  clear hrow0
  have da00_19 : ∀ o : Obj, (w18'.alloc o).cell? ⟨w.heap.size, 0, none⟩ = some (.int .i64 r0) := fun o => (((Below.refl w18'.heap.size w18').alloc (Nat.le_refl _) o).cell (p := (⟨w.heap.size, 0, none⟩ : Addr)) (show w.heap.size < w18'.heap.size by omega)).trans ca00
  have da01_19 : ∀ o : Obj, (w18'.alloc o).cell? ⟨w.heap.size, 1, none⟩ = some (.int .i64 s0) := fun o => (((Below.refl w18'.heap.size w18').alloc (Nat.le_refl _) o).cell (p := (⟨w.heap.size, 1, none⟩ : Addr)) (show w.heap.size < w18'.heap.size by omega)).trans ca01
  have da02_19 : ∀ o : Obj, (w18'.alloc o).cell? ⟨w.heap.size, 2, none⟩ = some (.slice ad0 es0.length cap0) := fun o => (((Below.refl w18'.heap.size w18').alloc (Nat.le_refl _) o).cell (p := (⟨w.heap.size, 2, none⟩ : Addr)) (show w.heap.size < w18'.heap.size by omega)).trans ca02
  have dm00_19 : ∀ o : Obj, (w18'.alloc o).cell? ⟨w4'.heap.size, 0, none⟩ = some (.int .i64 FR0) := fun o => (((Below.refl w18'.heap.size w18').alloc (Nat.le_refl _) o).cell (p := (⟨w4'.heap.size, 0, none⟩ : Addr)) (show w4'.heap.size < w18'.heap.size by omega)).trans cm00
  have dm01_19 : ∀ o : Obj, (w18'.alloc o).cell? ⟨w4'.heap.size, 1, none⟩ = some (.int .i64 FS0) := fun o => (((Below.refl w18'.heap.size w18').alloc (Nat.le_refl _) o).cell (p := (⟨w4'.heap.size, 1, none⟩ : Addr)) (show w4'.heap.size < w18'.heap.size by omega)).trans cm01
  have dm02_19 : ∀ o : Obj, (w18'.alloc o).cell? ⟨w4'.heap.size, 2, none⟩ = some (.slice m0a F0.length m0c) := fun o => (((Below.refl w18'.heap.size w18').alloc (Nat.le_refl _) o).cell (p := (⟨w4'.heap.size, 2, none⟩ : Addr)) (show w4'.heap.size < w18'.heap.size by omega)).trans cm02
  have dg00_19 : ∀ o : Obj, (w18'.alloc o).cell? ⟨w8'.heap.size, 0, none⟩ = some (.int .i64 FR0) := fun o => (((Below.refl w18'.heap.size w18').alloc (Nat.le_refl _) o).cell (p := (⟨w8'.heap.size, 0, none⟩ : Addr)) (show w8'.heap.size < w18'.heap.size by omega)).trans cg00
  have dg01_19 : ∀ o : Obj, (w18'.alloc o).cell? ⟨w8'.heap.size, 1, none⟩ = some (.int .i64 FS0) := fun o => (((Below.refl w18'.heap.size w18').alloc (Nat.le_refl _) o).cell (p := (⟨w8'.heap.size, 1, none⟩ : Addr)) (show w8'.heap.size < w18'.heap.size by omega)).trans cg01
  have dg02_19 : ∀ o : Obj, (w18'.alloc o).cell? ⟨w8'.heap.size, 2, none⟩ = some (.slice g0a F0.length g0c) := fun o => (((Below.refl w18'.heap.size w18').alloc (Nat.le_refl _) o).cell (p := (⟨w8'.heap.size, 2, none⟩ : Addr)) (show w8'.heap.size < w18'.heap.size by omega)).trans cg02
  obtain ⟨w19', hw19⟩ : ∃ z, z = w18'.alloc (.cells #[.int .i64 FR0, .int .i64 FS0, .slice q0a F0.length q0c] 28) := ⟨_, rfl⟩
  have hbn : Below w18'.heap.size w18' w19' := by rw [hw19]; exact (Below.refl _ _).alloc (Nat.le_refl _) _
  have hlt19 : w18'.heap.size < w19'.heap.size := by rw [hw19]; simp
  have hnb : w19'.heap[w18'.heap.size]? = some (.cells #[.int .i64 FR0, .int .i64 FS0, .slice q0a F0.length q0c] 28 (0, 0)) := by rw [hw19]; exact heap_alloc_new _ _
  replace hw19 := hidI hw19
  have hb19 := hb18.trans (hbn.mono hb18.size)
  have hs19 := hbn.size
  replace hm0 := hidI (hm0.out.below hbn (by omega))
  replace hk0 := hidI (hk0.out.below hbn (by omega))
  replace hy0 := hidI (hy0.out.below hbn (by omega))
  replace hq0 := hidI (hq0.out.below hbn (by omega))
  replace ca00 := (hbn.cell (p := (⟨w.heap.size, 0, none⟩ : Addr)) (show w.heap.size < w18'.heap.size by omega)).trans ca00
  replace ca01 := (hbn.cell (p := (⟨w.heap.size, 1, none⟩ : Addr)) (show w.heap.size < w18'.heap.size by omega)).trans ca01
  replace ca02 := (hbn.cell (p := (⟨w.heap.size, 2, none⟩ : Addr)) (show w.heap.size < w18'.heap.size by omega)).trans ca02
  replace cm00 := (hbn.cell (p := (⟨w4'.heap.size, 0, none⟩ : Addr)) (show w4'.heap.size < w18'.heap.size by omega)).trans cm00
  replace cm01 := (hbn.cell (p := (⟨w4'.heap.size, 1, none⟩ : Addr)) (show w4'.heap.size < w18'.heap.size by omega)).trans cm01
  replace cm02 := (hbn.cell (p := (⟨w4'.heap.size, 2, none⟩ : Addr)) (show w4'.heap.size < w18'.heap.size by omega)).trans cm02
  replace cg00 := (hbn.cell (p := (⟨w8'.heap.size, 0, none⟩ : Addr)) (show w8'.heap.size < w18'.heap.size by omega)).trans cg00
  replace cg01 := (hbn.cell (p := (⟨w8'.heap.size, 1, none⟩ : Addr)) (show w8'.heap.size < w18'.heap.size by omega)).trans cg01
  replace cg02 := (hbn.cell (p := (⟨w8'.heap.size, 2, none⟩ : Addr)) (show w8'.heap.size < w18'.heap.size by omega)).trans cg02
  clear hbn
  have cq00 : w19'.cell? ⟨w18'.heap.size, 0, none⟩ = some (.int .i64 FR0) := by simpa using cell_of_heap hnb 0
  have cq01 : w19'.cell? ⟨w18'.heap.size, 1, none⟩ = some (.int .i64 FS0) := by simpa using cell_of_heap hnb 1
  have cq02 : w19'.cell? ⟨w18'.heap.size, 2, none⟩ = some (.slice q0a F0.length q0c) := by simpa using cell_of_heap hnb 2
  clear hnb
  clear hy0
  go_wp2_with fail
  try rw [← hw19.out]
  clear da00_19 da01_19 da02_19 dm00_19 dm01_19 dm02_19 dg00_19 dg01_19 dg02_19
  refine (eqGraph_same w19' FR0 FS0 _ _ F0.length (flatE F0) (hq0.out.read.mono (by omega)) (hm0.out.read.mono (by omega))).mono ?_
  rintro e w20' ⟨rfl, hbn⟩
  have hb20 := hb19.trans (hbn.mono hb19.size)
  have hs20 := hbn.size
  replace hm0 := hidI (hm0.out.below hbn (by omega))
  replace hk0 := hidI (hk0.out.below hbn (by omega))
  replace hq0 := hidI (hq0.out.below hbn (by omega))
  replace ca00 := (hbn.cell (p := (⟨w.heap.size, 0, none⟩ : Addr)) (show w.heap.size < w19'.heap.size by omega)).trans ca00
  replace ca01 := (hbn.cell (p := (⟨w.heap.size, 1, none⟩ : Addr)) (show w.heap.size < w19'.heap.size by omega)).trans ca01
  replace ca02 := (hbn.cell (p := (⟨w.heap.size, 2, none⟩ : Addr)) (show w.heap.size < w19'.heap.size by omega)).trans ca02
  replace cm00 := (hbn.cell (p := (⟨w4'.heap.size, 0, none⟩ : Addr)) (show w4'.heap.size < w19'.heap.size by omega)).trans cm00
  replace cm01 := (hbn.cell (p := (⟨w4'.heap.size, 1, none⟩ : Addr)) (show w4'.heap.size < w19'.heap.size by omega)).trans cm01
  replace cm02 := (hbn.cell (p := (⟨w4'.heap.size, 2, none⟩ : Addr)) (show w4'.heap.size < w19'.heap.size by omega)).trans cm02
  replace cg00 := (hbn.cell (p := (⟨w8'.heap.size, 0, none⟩ : Addr)) (show w8'.heap.size < w19'.heap.size by omega)).trans cg00
  replace cg01 := (hbn.cell (p := (⟨w8'.heap.size, 1, none⟩ : Addr)) (show w8'.heap.size < w19'.heap.size by omega)).trans cg01
  replace cg02 := (hbn.cell (p := (⟨w8'.heap.size, 2, none⟩ : Addr)) (show w8'.heap.size < w19'.heap.size by omega)).trans cg02
  replace cq00 := (hbn.cell (p := (⟨w18'.heap.size, 0, none⟩ : Addr)) (show w18'.heap.size < w19'.heap.size by omega)).trans cq00
  replace cq01 := (hbn.cell (p := (⟨w18'.heap.size, 1, none⟩ : Addr)) (show w18'.heap.size < w19'.heap.size by omega)).trans cq01
  replace cq02 := (hbn.cell (p := (⟨w18'.heap.size, 2, none⟩ : Addr)) (show w18'.heap.size < w19'.heap.size by omega)).trans cq02
  clear hbn
  go_wp2_with fail
  refine (heldGraph_any w20' FR0 FS0 _ F0.length 1 (hk0.out.read.mono (by omega)) (by omega) (by omega) (by omega)).mono ?_
  rintro e w21' ⟨rfl, hbn⟩
  have hb21 := hb20.trans (hbn.mono hb20.size)
  have hs21 := hbn.size
  replace hm0 := hidI (hm0.out.below hbn (by omega))
  replace hk0 := hidI (hk0.out.below hbn (by omega))
  replace hq0 := hidI (hq0.out.below hbn (by omega))
  replace ca00 := (hbn.cell (p := (⟨w.heap.size, 0, none⟩ : Addr)) (show w.heap.size < w20'.heap.size by omega)).trans ca00
  replace ca01 := (hbn.cell (p := (⟨w.heap.size, 1, none⟩ : Addr)) (show w.heap.size < w20'.heap.size by omega)).trans ca01
  replace ca02 := (hbn.cell (p := (⟨w.heap.size, 2, none⟩ : Addr)) (show w.heap.size < w20'.heap.size by omega)).trans ca02
  replace cm00 := (hbn.cell (p := (⟨w4'.heap.size, 0, none⟩ : Addr)) (show w4'.heap.size < w20'.heap.size by omega)).trans cm00
  replace cm01 := (hbn.cell (p := (⟨w4'.heap.size, 1, none⟩ : Addr)) (show w4'.heap.size < w20'.heap.size by omega)).trans cm01
  replace cm02 := (hbn.cell (p := (⟨w4'.heap.size, 2, none⟩ : Addr)) (show w4'.heap.size < w20'.heap.size by omega)).trans cm02
  replace cg00 := (hbn.cell (p := (⟨w8'.heap.size, 0, none⟩ : Addr)) (show w8'.heap.size < w20'.heap.size by omega)).trans cg00
  replace cg01 := (hbn.cell (p := (⟨w8'.heap.size, 1, none⟩ : Addr)) (show w8'.heap.size < w20'.heap.size by omega)).trans cg01
  replace cg02 := (hbn.cell (p := (⟨w8'.heap.size, 2, none⟩ : Addr)) (show w8'.heap.size < w20'.heap.size by omega)).trans cg02
  replace cq00 := (hbn.cell (p := (⟨w18'.heap.size, 0, none⟩ : Addr)) (show w18'.heap.size < w20'.heap.size by omega)).trans cq00
  replace cq01 := (hbn.cell (p := (⟨w18'.heap.size, 1, none⟩ : Addr)) (show w18'.heap.size < w20'.heap.size by omega)).trans cq01
  replace cq02 := (hbn.cell (p := (⟨w18'.heap.size, 2, none⟩ : Addr)) (show w18'.heap.size < w20'.heap.size by omega)).trans cq02
  clear hbn
  go_wp2_with fail
  go_ret
  exact ⟨rfl, hb21⟩
theorem walk (W : World) (r0 s0 : Int) (a0 : Option Addr) (len0 cap0 : Nat) (es0 : List Ed) (u0 : (Lit.int .i64 r0).wf = true) (y0 : (Lit.int .i64 s0).wf = true) (w0 : IsRowE W a0 len0 cap0 es0) :
    Calls Tryz.prog 3 #[.agg #[.int .i64 r0, .int .i64 s0, .slice a0 len0 cap0]] W fun e w' => e = .returned (.bool true) ∧ Below W.heap.size W w' := by
  obtain ⟨e0, i0, m0⟩ := w0.len
  by_cases s0_ : 1048576 < len0
  · exact walk0_big0 W r0 s0 a0 len0 cap0 m0 s0_
  exact walk0 W r0 s0 _ es0 (wf_i64 u0) (wf_i64 y0) (w0.read (by omega)) i0 (by omega)

/-! ### The row's step -/
set_option maxRecDepth 100000 in
theorem lifted (os : Os) (started : os.Started) (H : Type) (enc : TypeId × Value → H) :
    ReturnsInHanded {} Tryz.checked os 3 .any (Rows.fnExactCoreGraphSpec.pre6 enc Tryz.prog Tryz.f3 Rows.fnExactCoreGraphRow.domain false) (Rows.fnExactCoreGraphSpec.post enc Tryz.prog Tryz.f3 false true false false) := by
  refine returnsInHanded_of_change (C := Tryz.checked) own started (by kernel_rfl) Tryz.func3
    (ChangeSpec.witness6 (enc := enc) (C := Tryz.checked) false ⟨#[], #[.agg #[.int .i64 0, .int .i64 0, .slice none 0 0]], []⟩ 8 (by kernel_rfl) (by kernel_rfl) (by kernel_rfl) (by kernel_rfl)) ?_
  intro W base args ds gs before hval0 hW hcnd _
  have hval : ∀ (j : Nat) t v, Tryz.f3.params[j]? = some t → args[j]? = some v → Value.okWide Tryz.prog W .any base t v := hval0
  have hW' := hW
  obtain ⟨p, q, hA0, hV, rfl, hfz, hnd⟩ := hW
  have hA : DataW.TrodAll enc Tryz.prog W 0 (fun _ => true) true Tryz.f3.params.toList args.toList ds p := hA0
  rw [Tryz.params3] at hA hval
  obtain ⟨v0, vs0, d0, ds0, p0, q0, hargs, rfl, rfl, h0, r0⟩ := trodAll_cons hA
  obtain ⟨rfl, rfl, rfl⟩ := trodAll_nil r0
  obtain rfl : args = #[v0] := by cases args; simp_all
  obtain ⟨rfl, rfl⟩ := trodVars_none hV
  have k0 := h0
  have lt0 : ∀ x ∈ p0, x.block < W.heap.size := by obtain ⟨m, hm⟩ := k0; exact DataW.trod_lt m _ _ _ hm
  obtain ⟨gr0, gs0, a0, len0, cap0, es0, rfl, u0, y0, w0⟩ := open_graph (hval 0 24 v0 rfl rfl) h0
  clear hA0 hval0
  refine (walk W gr0 gs0 a0 len0 cap0 es0 u0 y0 w0).mono fun e W' ⟨he, hg⟩ => ?_
  subst he
  exact ⟨_, rfl, _, _, _, [], _, [], hW', trodAll_mk1 (shut_bool Tryz.underlying4 _), (trodAll_cons_mk (Below.trod laidOut (by kernel_rfl) (of_decide_eq_true (by kernel_rfl)) k0 hg lt0) trodAll_mk0), rfl, hg.frame _, fun h => by cases h⟩

theorem over : Rows.fnExactCoreGraphRow.holds Tryz.pinned (OpenSpec.ofChange Rows.fnExactCoreGraphSpec) :=
  OpenClaim.holds_of_wide 3 Tryz.f3 rfl rfl rfl rfl rfl rfl rfl ⟨rfl, rfl, rfl, rfl, rfl⟩ rfl rfl rfl rfl rfl (by kernel_rfl) Tryz.func3 (by kernel_rfl)
    (of_decide_eq_true (by kernel_rfl)) (by unfold Func.isWrapper; first | (rw [if_pos (by decide +kernel)]; kernel_rfl) | (rw [if_neg (by decide +kernel)]; exact ⟨rfl, rfl⟩))
    (fun os started H enc _ => lifted os started H enc)

theorem proved : Rows.FnExactCoreGraphSaid := over
#print axioms proved
end Go.Proofs.YtecceaijdjnflaaGreat.fnExactCoreGraph
