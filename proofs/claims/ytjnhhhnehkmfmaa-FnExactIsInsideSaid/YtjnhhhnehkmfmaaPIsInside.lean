/- For every two graphs, laws.FnExactIsInside returns true and leaves its arguments as they are: the program's answer is the model's. Conditions: none beyond the row's. -/
import Derived.Test.YtjnhhhnehkmfmaaQB
import Derived.Test.YtjnhhhnehkmfmaaZE
import Derived.Test.YtjnhhhnehkmfmaaYE
import Derived.WalkKit
import Derived.ProofKit
import Derived.OpenShut
import Derived.ShutString
import Derived.Below
namespace Go.Proofs.Ytjnhhhnehkmfmaa.fnExactIsInside
open Go.ChangeShapes Go.WideShapes Go.ChangeAt Go.RowKit
open Go.ChangeMaps (open_string shut_string)
set_option linter.unusedVariables false

theorem own : ownKnob Try.prog.godebug = none := by kernel_rfl

theorem laidOut : laidOutB Try.prog = true := by kernel_rfl
theorem walk0_big0 (w : World) (r0 s0 : Int) (a0 : Option Addr) (len0 cap0 : Nat) (r1 s1 : Int) (a1 : Option Addr) (len1 cap1 : Nat) (m0 : (len0 : Int) ≤ 9223372036854775807) (hbig : 1048576 < len0) :
    Calls Try.prog 5 #[.agg #[.int .i64 r0, .int .i64 s0, .slice a0 len0 cap0], .agg #[.int .i64 r1, .int .i64 s1, .slice a1 len1 cap1]] w fun e w' => e = .returned (.bool true) ∧ Below w.heap.size w w' := by
  have hb0 := Below.refl w.heap.size w
  obtain ⟨b0, hx0⟩ : ∃ z, z = w.alloc (.cells #[.int .i64 r0, .int .i64 s0, .slice a0 len0 cap0] 24) := ⟨_, rfl⟩
  have hy0 : Below w.heap.size w b0 := by rw [hx0]; exact hb0.alloc hb0.size _
  have hnb0 : b0.heap[w.heap.size]? = some (.cells #[.int .i64 r0, .int .i64 s0, .slice a0 len0 cap0] 24 (0, 0)) := by rw [hx0]; exact heap_alloc_new _ _
  have hlt0 : w.heap.size < b0.heap.size := by rw [hx0]; simp
  have c00 := cell_of_heap hnb0 0
  simp at c00
  have c01 := cell_of_heap hnb0 1
  simp at c01
  have c02 := cell_of_heap hnb0 2
  simp at c02
  clear hnb0
  replace hx0 := hidI hx0
  obtain ⟨b1, hx1⟩ : ∃ z, z = b0.alloc (.cells #[.int .i64 r1, .int .i64 s1, .slice a1 len1 cap1] 24) := ⟨_, rfl⟩
  have hy1 : Below w.heap.size w b1 := by rw [hx1]; exact hy0.alloc hy0.size _
  have hnb1 : b1.heap[b0.heap.size]? = some (.cells #[.int .i64 r1, .int .i64 s1, .slice a1 len1 cap1] 24 (0, 0)) := by rw [hx1]; exact heap_alloc_new _ _
  have hlt1 : b0.heap.size < b1.heap.size := by rw [hx1]; simp
  replace c00 := ((show Below b0.heap.size b0 b1 by rw [hx1]; exact (Below.refl _ _).alloc (Nat.le_refl _) _).cell (p := (⟨w.heap.size, 0, none⟩ : Addr)) (show w.heap.size < b0.heap.size by omega)).trans c00
  replace c01 := ((show Below b0.heap.size b0 b1 by rw [hx1]; exact (Below.refl _ _).alloc (Nat.le_refl _) _).cell (p := (⟨w.heap.size, 1, none⟩ : Addr)) (show w.heap.size < b0.heap.size by omega)).trans c01
  replace c02 := ((show Below b0.heap.size b0 b1 by rw [hx1]; exact (Below.refl _ _).alloc (Nat.le_refl _) _).cell (p := (⟨w.heap.size, 2, none⟩ : Addr)) (show w.heap.size < b0.heap.size by omega)).trans c02
  rw [show b0.heap.size = w.heap.size + 1 by rw [hx0.out]; simp] at hnb1
  have hlu1 : w.heap.size + 1 < b1.heap.size := by have := (show b0.heap.size = w.heap.size + 1 by rw [hx0.out]; simp); omega
  have c10 := cell_of_heap hnb1 0
  simp at c10
  have c11 := cell_of_heap hnb1 1
  simp at c11
  have c12 := cell_of_heap hnb1 2
  simp at c12
  clear hnb1
  replace hx1 := hidI hx1
  go_enter Try.func5, Try.ntmps5
  go_wp2_with fail
  rw [← hx0.out]
  rw [← hx1.out]
  refine (szGraph_any b1 r0 s0 a0 len0 cap0 1048576 m0 (by omega) (by omega)).mono ?_
  rw [if_pos (by omega)]
  rintro e w1 ⟨rfl, hbn1⟩
  have hb1 := hy1.trans (hbn1.mono hy1.size)
  have hs1 := hbn1.size
  replace c00 := (hbn1.cell (p := (⟨w.heap.size, 0, none⟩ : Addr)) (show w.heap.size < b1.heap.size by omega)).trans c00
  replace c01 := (hbn1.cell (p := (⟨w.heap.size, 1, none⟩ : Addr)) (show w.heap.size < b1.heap.size by omega)).trans c01
  replace c02 := (hbn1.cell (p := (⟨w.heap.size, 2, none⟩ : Addr)) (show w.heap.size < b1.heap.size by omega)).trans c02
  replace c10 := (hbn1.cell (p := (⟨w.heap.size + 1, 0, none⟩ : Addr)) (show w.heap.size + 1 < b1.heap.size by omega)).trans c10
  replace c11 := (hbn1.cell (p := (⟨w.heap.size + 1, 1, none⟩ : Addr)) (show w.heap.size + 1 < b1.heap.size by omega)).trans c11
  replace c12 := (hbn1.cell (p := (⟨w.heap.size + 1, 2, none⟩ : Addr)) (show w.heap.size + 1 < b1.heap.size by omega)).trans c12
  go_wp2
  go_ret
  exact ⟨rfl, hb1⟩
theorem walk0_big1 (w : World) (r0 s0 : Int) (a0 : Option Addr) (len0 cap0 : Nat) (r1 s1 : Int) (a1 : Option Addr) (len1 cap1 : Nat) (m0 : (len0 : Int) ≤ 9223372036854775807) (m1 : (len1 : Int) ≤ 9223372036854775807) (qg : len0 ≤ 1048576) (hbig : 1048576 < len0 + len1) :
    Calls Try.prog 5 #[.agg #[.int .i64 r0, .int .i64 s0, .slice a0 len0 cap0], .agg #[.int .i64 r1, .int .i64 s1, .slice a1 len1 cap1]] w fun e w' => e = .returned (.bool true) ∧ Below w.heap.size w w' := by
  have hb0 := Below.refl w.heap.size w
  obtain ⟨b0, hx0⟩ : ∃ z, z = w.alloc (.cells #[.int .i64 r0, .int .i64 s0, .slice a0 len0 cap0] 24) := ⟨_, rfl⟩
  have hy0 : Below w.heap.size w b0 := by rw [hx0]; exact hb0.alloc hb0.size _
  have hnb0 : b0.heap[w.heap.size]? = some (.cells #[.int .i64 r0, .int .i64 s0, .slice a0 len0 cap0] 24 (0, 0)) := by rw [hx0]; exact heap_alloc_new _ _
  have hlt0 : w.heap.size < b0.heap.size := by rw [hx0]; simp
  have c00 := cell_of_heap hnb0 0
  simp at c00
  have c01 := cell_of_heap hnb0 1
  simp at c01
  have c02 := cell_of_heap hnb0 2
  simp at c02
  clear hnb0
  replace hx0 := hidI hx0
  obtain ⟨b1, hx1⟩ : ∃ z, z = b0.alloc (.cells #[.int .i64 r1, .int .i64 s1, .slice a1 len1 cap1] 24) := ⟨_, rfl⟩
  have hy1 : Below w.heap.size w b1 := by rw [hx1]; exact hy0.alloc hy0.size _
  have hnb1 : b1.heap[b0.heap.size]? = some (.cells #[.int .i64 r1, .int .i64 s1, .slice a1 len1 cap1] 24 (0, 0)) := by rw [hx1]; exact heap_alloc_new _ _
  have hlt1 : b0.heap.size < b1.heap.size := by rw [hx1]; simp
  replace c00 := ((show Below b0.heap.size b0 b1 by rw [hx1]; exact (Below.refl _ _).alloc (Nat.le_refl _) _).cell (p := (⟨w.heap.size, 0, none⟩ : Addr)) (show w.heap.size < b0.heap.size by omega)).trans c00
  replace c01 := ((show Below b0.heap.size b0 b1 by rw [hx1]; exact (Below.refl _ _).alloc (Nat.le_refl _) _).cell (p := (⟨w.heap.size, 1, none⟩ : Addr)) (show w.heap.size < b0.heap.size by omega)).trans c01
  replace c02 := ((show Below b0.heap.size b0 b1 by rw [hx1]; exact (Below.refl _ _).alloc (Nat.le_refl _) _).cell (p := (⟨w.heap.size, 2, none⟩ : Addr)) (show w.heap.size < b0.heap.size by omega)).trans c02
  rw [show b0.heap.size = w.heap.size + 1 by rw [hx0.out]; simp] at hnb1
  have hlu1 : w.heap.size + 1 < b1.heap.size := by have := (show b0.heap.size = w.heap.size + 1 by rw [hx0.out]; simp); omega
  have c10 := cell_of_heap hnb1 0
  simp at c10
  have c11 := cell_of_heap hnb1 1
  simp at c11
  have c12 := cell_of_heap hnb1 2
  simp at c12
  clear hnb1
  replace hx1 := hidI hx1
  go_enter Try.func5, Try.ntmps5
  go_wp2_with fail
  rw [← hx0.out]
  rw [← hx1.out]
  refine (szGraph_any b1 r0 s0 a0 len0 cap0 1048576 m0 (by omega) (by omega)).mono ?_
  rw [if_neg (by omega)]
  rintro e w1 ⟨rfl, hbn1⟩
  have hb1 := hy1.trans (hbn1.mono hy1.size)
  have hs1 := hbn1.size
  replace c00 := (hbn1.cell (p := (⟨w.heap.size, 0, none⟩ : Addr)) (show w.heap.size < b1.heap.size by omega)).trans c00
  replace c01 := (hbn1.cell (p := (⟨w.heap.size, 1, none⟩ : Addr)) (show w.heap.size < b1.heap.size by omega)).trans c01
  replace c02 := (hbn1.cell (p := (⟨w.heap.size, 2, none⟩ : Addr)) (show w.heap.size < b1.heap.size by omega)).trans c02
  replace c10 := (hbn1.cell (p := (⟨w.heap.size + 1, 0, none⟩ : Addr)) (show w.heap.size + 1 < b1.heap.size by omega)).trans c10
  replace c11 := (hbn1.cell (p := (⟨w.heap.size + 1, 1, none⟩ : Addr)) (show w.heap.size + 1 < b1.heap.size by omega)).trans c11
  replace c12 := (hbn1.cell (p := (⟨w.heap.size + 1, 2, none⟩ : Addr)) (show w.heap.size + 1 < b1.heap.size by omega)).trans c12
  have hn0 : ¬ 1048576 - (len0 : Int) < 0 := by omega
  go_wp2_with fail
  refine (szGraph_any w1 r1 s1 a1 len1 cap1 (1048576 - (len0 : Int)) m1 (by omega) (by omega)).mono ?_
  rw [if_pos (by omega)]
  rintro e w2 ⟨rfl, hbn2⟩
  have hb2 := hb1.trans (hbn2.mono hb1.size)
  have hs2 := hbn2.size
  replace c00 := (hbn2.cell (p := (⟨w.heap.size, 0, none⟩ : Addr)) (show w.heap.size < w1.heap.size by omega)).trans c00
  replace c01 := (hbn2.cell (p := (⟨w.heap.size, 1, none⟩ : Addr)) (show w.heap.size < w1.heap.size by omega)).trans c01
  replace c02 := (hbn2.cell (p := (⟨w.heap.size, 2, none⟩ : Addr)) (show w.heap.size < w1.heap.size by omega)).trans c02
  replace c10 := (hbn2.cell (p := (⟨w.heap.size + 1, 0, none⟩ : Addr)) (show w.heap.size + 1 < w1.heap.size by omega)).trans c10
  replace c11 := (hbn2.cell (p := (⟨w.heap.size + 1, 1, none⟩ : Addr)) (show w.heap.size + 1 < w1.heap.size by omega)).trans c11
  replace c12 := (hbn2.cell (p := (⟨w.heap.size + 1, 2, none⟩ : Addr)) (show w.heap.size + 1 < w1.heap.size by omega)).trans c12
  go_wp2
  go_ret
  exact ⟨rfl, hb2⟩
set_option maxHeartbeats 3200000 in
theorem walk0 (w : World) (r0 s0 : Int) (v0 : Value) (es0 : List Ed) (br0 : -9223372036854775808 ≤ r0 ∧ r0 ≤ 9223372036854775807) (bs0 : -9223372036854775808 ≤ s0 ∧ s0 ≤ 9223372036854775807) (h0 : ReadE w.heap.size w v0 es0) (i0 : InE es0) (r1 s1 : Int) (v1 : Value) (es1 : List Ed) (br1 : -9223372036854775808 ≤ r1 ∧ r1 ≤ 9223372036854775807) (bs1 : -9223372036854775808 ≤ s1 ∧ s1 ≤ 9223372036854775807) (h1 : ReadE w.heap.size w v1 es1) (i1 : InE es1) (lg : es0.length + es1.length ≤ 1048576) :
    Calls Try.prog 5 #[.agg #[.int .i64 r0, .int .i64 s0, v0], .agg #[.int .i64 r1, .int .i64 s1, v1]] w fun e w' => e = .returned (.bool true) ∧ Below w.heap.size w w' := by
  obtain ⟨ad0, cap0, rfl, hnc0⟩ := h0.form
  have hr0 := hidI h0
  clear h0 hnc0
  obtain ⟨ad1, cap1, rfl, hnc1⟩ := h1.form
  have hr1 := hidI h1
  clear h1 hnc1
  replace i0 := hidI i0
  replace i1 := hidI i1
  obtain ⟨F0, hF0⟩ : ∃ F, F = suIn r0 s0 es0 r1 s1 es1 := ⟨_, rfl⟩
  have hne0 : (F0 != F0) = false := by simp
  have heq0 : (F0 == F0) = true := by simp
  replace hF0 := hidI hF0
  have hbw := Below.refl w.heap.size w
  obtain ⟨w1', hw1⟩ : ∃ z, z = w.alloc (.cells #[.int .i64 r0, .int .i64 s0, .slice ad0 es0.length cap0] 24) := ⟨_, rfl⟩
  have hbn : Below w.heap.size w w1' := by rw [hw1]; exact (Below.refl _ _).alloc (Nat.le_refl _) _
  have hlt1 : w.heap.size < w1'.heap.size := by rw [hw1]; simp
  have hnb : w1'.heap[w.heap.size]? = some (.cells #[.int .i64 r0, .int .i64 s0, .slice ad0 es0.length cap0] 24 (0, 0)) := by rw [hw1]; exact heap_alloc_new _ _
  replace hw1 := hidI hw1
  have hb1 := hbw.trans (hbn.mono hbw.size)
  have hs1 := hbn.size
  clear hbn
  have ca00 : w1'.cell? ⟨w.heap.size, 0, none⟩ = some (.int .i64 r0) := by simpa using cell_of_heap hnb 0
  have ca01 : w1'.cell? ⟨w.heap.size, 1, none⟩ = some (.int .i64 s0) := by simpa using cell_of_heap hnb 1
  have ca02 : w1'.cell? ⟨w.heap.size, 2, none⟩ = some (.slice ad0 es0.length cap0) := by simpa using cell_of_heap hnb 2
  clear hnb
  obtain ⟨w2', hw2⟩ : ∃ z, z = w1'.alloc (.cells #[.int .i64 r1, .int .i64 s1, .slice ad1 es1.length cap1] 24) := ⟨_, rfl⟩
  have hbn : Below w1'.heap.size w1' w2' := by rw [hw2]; exact (Below.refl _ _).alloc (Nat.le_refl _) _
  have hlt2 : w1'.heap.size < w2'.heap.size := by rw [hw2]; simp
  have hnb : w2'.heap[w1'.heap.size]? = some (.cells #[.int .i64 r1, .int .i64 s1, .slice ad1 es1.length cap1] 24 (0, 0)) := by rw [hw2]; exact heap_alloc_new _ _
  replace hw2 := hidI hw2
  have hb2 := hb1.trans (hbn.mono hb1.size)
  have hs2 := hbn.size
  replace ca00 := (hbn.cell (p := (⟨w.heap.size, 0, none⟩ : Addr)) (show w.heap.size < w1'.heap.size by omega)).trans ca00
  replace ca01 := (hbn.cell (p := (⟨w.heap.size, 1, none⟩ : Addr)) (show w.heap.size < w1'.heap.size by omega)).trans ca01
  replace ca02 := (hbn.cell (p := (⟨w.heap.size, 2, none⟩ : Addr)) (show w.heap.size < w1'.heap.size by omega)).trans ca02
  clear hbn
  rw [show w1'.heap.size = w.heap.size + 1 by rw [hw1.out]; simp] at hnb
  have ca10 : w2'.cell? ⟨w.heap.size + 1, 0, none⟩ = some (.int .i64 r1) := by simpa using cell_of_heap hnb 0
  have ca11 : w2'.cell? ⟨w.heap.size + 1, 1, none⟩ = some (.int .i64 s1) := by simpa using cell_of_heap hnb 1
  have ca12 : w2'.cell? ⟨w.heap.size + 1, 2, none⟩ = some (.slice ad1 es1.length cap1) := by simpa using cell_of_heap hnb 2
  have hlu2 : w.heap.size + 1 < w2'.heap.size := by have := (show w1'.heap.size = w.heap.size + 1 by rw [hw1.out]; simp); omega
  clear hnb
  go_enter Try.func5, Try.ntmps5
  go_wp2_with fail
  try rw [← hw1.out]
  try rw [← hw2.out]
  refine (szGraph_any w2' r0 s0 _ es0.length cap0 1048576 (by omega) (by omega) (by omega)).mono ?_
  rw [if_neg (by omega)]
  rintro e w3' ⟨rfl, hbn⟩
  have hb3 := hb2.trans (hbn.mono hb2.size)
  have hs3 := hbn.size
  replace ca00 := (hbn.cell (p := (⟨w.heap.size, 0, none⟩ : Addr)) (show w.heap.size < w2'.heap.size by omega)).trans ca00
  replace ca01 := (hbn.cell (p := (⟨w.heap.size, 1, none⟩ : Addr)) (show w.heap.size < w2'.heap.size by omega)).trans ca01
  replace ca02 := (hbn.cell (p := (⟨w.heap.size, 2, none⟩ : Addr)) (show w.heap.size < w2'.heap.size by omega)).trans ca02
  replace ca10 := (hbn.cell (p := (⟨w.heap.size + 1, 0, none⟩ : Addr)) (show w.heap.size + 1 < w2'.heap.size by omega)).trans ca10
  replace ca11 := (hbn.cell (p := (⟨w.heap.size + 1, 1, none⟩ : Addr)) (show w.heap.size + 1 < w2'.heap.size by omega)).trans ca11
  replace ca12 := (hbn.cell (p := (⟨w.heap.size + 1, 2, none⟩ : Addr)) (show w.heap.size + 1 < w2'.heap.size by omega)).trans ca12
  clear hbn
  have hleft0 : ¬ 1048576 - (es0.length : Int) < 0 := by omega
  go_wp2_with fail
  refine (szGraph_any w3' r1 s1 _ es1.length cap1 (1048576 - (es0.length : Int)) (by omega) (by omega) (by omega)).mono ?_
  rw [if_neg (by omega)]
  rintro e w4' ⟨rfl, hbn⟩
  have hb4 := hb3.trans (hbn.mono hb3.size)
  have hs4 := hbn.size
  replace ca00 := (hbn.cell (p := (⟨w.heap.size, 0, none⟩ : Addr)) (show w.heap.size < w3'.heap.size by omega)).trans ca00
  replace ca01 := (hbn.cell (p := (⟨w.heap.size, 1, none⟩ : Addr)) (show w.heap.size < w3'.heap.size by omega)).trans ca01
  replace ca02 := (hbn.cell (p := (⟨w.heap.size, 2, none⟩ : Addr)) (show w.heap.size < w3'.heap.size by omega)).trans ca02
  replace ca10 := (hbn.cell (p := (⟨w.heap.size + 1, 0, none⟩ : Addr)) (show w.heap.size + 1 < w3'.heap.size by omega)).trans ca10
  replace ca11 := (hbn.cell (p := (⟨w.heap.size + 1, 1, none⟩ : Addr)) (show w.heap.size + 1 < w3'.heap.size by omega)).trans ca11
  replace ca12 := (hbn.cell (p := (⟨w.heap.size + 1, 2, none⟩ : Addr)) (show w.heap.size + 1 < w3'.heap.size by omega)).trans ca12
  clear hbn
  have hleft1 : ¬ 1048576 - (es0.length : Int) - (es1.length : Int) < 0 := by omega
  go_wp2_with fail
  have hdr := below_dn (Below.refl w4'.heap.size w4') 1
  have hcr0 := toGraph_any w4'.drew r0 s0 _ es0.length (flatE es0) ((((hr0.out.below hb4).below (hdr.mono hb4.size))).mono hb4.size) (by omega)
  go_region_held3 (fun z => z.cell? ⟨w.heap.size, 0, none⟩ = some (.int .i64 r0) ∧ z.cell? ⟨w.heap.size, 1, none⟩ = some (.int .i64 s0) ∧ z.cell? ⟨w.heap.size, 2, none⟩ = some (.slice ad0 es0.length cap0) ∧ z.cell? ⟨w.heap.size + 1, 0, none⟩ = some (.int .i64 r1) ∧ z.cell? ⟨w.heap.size + 1, 1, none⟩ = some (.int .i64 s1) ∧ z.cell? ⟨w.heap.size + 1, 2, none⟩ = some (.slice ad1 es1.length cap1)) (first | ((repeat' apply And.intro) <;> assumption) | go_keep) (first | (go_at_call 14; (with_reducible refine hcr0.mono ?_); rintro e w5' ⟨u0a, u0c, rfl, hrow, hbn⟩; replace hbn := hdr.trans hbn; have hb5 := hb4.trans (hbn.mono hb4.size); have hs5 := hbn.size; replace ca00 := (hbn.cell (p := (⟨w.heap.size, 0, none⟩ : Addr)) (show w.heap.size < w4'.heap.size by omega)).trans ca00; replace ca01 := (hbn.cell (p := (⟨w.heap.size, 1, none⟩ : Addr)) (show w.heap.size < w4'.heap.size by omega)).trans ca01; replace ca02 := (hbn.cell (p := (⟨w.heap.size, 2, none⟩ : Addr)) (show w.heap.size < w4'.heap.size by omega)).trans ca02; replace ca10 := (hbn.cell (p := (⟨w.heap.size + 1, 0, none⟩ : Addr)) (show w.heap.size + 1 < w4'.heap.size by omega)).trans ca10; replace ca11 := (hbn.cell (p := (⟨w.heap.size + 1, 1, none⟩ : Addr)) (show w.heap.size + 1 < w4'.heap.size by omega)).trans ca11; replace ca12 := (hbn.cell (p := (⟨w.heap.size + 1, 2, none⟩ : Addr)) (show w.heap.size + 1 < w4'.heap.size by omega)).trans ca12; have hu0 := hidI hrow; clear hrow; clear hbn hcr0; have hcr1 := toGraph_any w5' r1 s1 _ es1.length (flatE es1) ((hr1.out.below hb5).mono hb5.size) (by omega)) | (go_at_call 14; (with_reducible refine hcr1.mono ?_); rintro e w6' ⟨u1a, u1c, rfl, hrow, hbn⟩; have hb6 := hb5.trans (hbn.mono hb5.size); have hs6 := hbn.size; replace hu0 := hidI (hu0.out.below hbn (by omega)); replace ca00 := (hbn.cell (p := (⟨w.heap.size, 0, none⟩ : Addr)) (show w.heap.size < w5'.heap.size by omega)).trans ca00; replace ca01 := (hbn.cell (p := (⟨w.heap.size, 1, none⟩ : Addr)) (show w.heap.size < w5'.heap.size by omega)).trans ca01; replace ca02 := (hbn.cell (p := (⟨w.heap.size, 2, none⟩ : Addr)) (show w.heap.size < w5'.heap.size by omega)).trans ca02; replace ca10 := (hbn.cell (p := (⟨w.heap.size + 1, 0, none⟩ : Addr)) (show w.heap.size + 1 < w5'.heap.size by omega)).trans ca10; replace ca11 := (hbn.cell (p := (⟨w.heap.size + 1, 1, none⟩ : Addr)) (show w.heap.size + 1 < w5'.heap.size by omega)).trans ca11; replace ca12 := (hbn.cell (p := (⟨w.heap.size + 1, 2, none⟩ : Addr)) (show w.heap.size + 1 < w5'.heap.size by omega)).trans ca12; have hu1 := hidI hrow; clear hrow; clear hbn hcr1; have hcr2 := specIsIn w6' r0 s0 _ es0 r1 s1 _ es1 (hu0.out.read.mono (by omega)) (hu1.out.read.mono (by omega)) bs0 bs1 (by omega) (by omega)) | (go_at_call 21; (with_reducible refine hcr2.mono ?_); intro e w7' hpost; rw [← hF0.out] at hpost; obtain ⟨rfl, hbn⟩ := hpost; have hb7 := hb6.trans (hbn.mono hb6.size); have hs7 := hbn.size; replace hu0 := hidI (hu0.out.below hbn (by omega)); replace hu1 := hidI (hu1.out.below hbn (by omega)); replace ca00 := (hbn.cell (p := (⟨w.heap.size, 0, none⟩ : Addr)) (show w.heap.size < w6'.heap.size by omega)).trans ca00; replace ca01 := (hbn.cell (p := (⟨w.heap.size, 1, none⟩ : Addr)) (show w.heap.size < w6'.heap.size by omega)).trans ca01; replace ca02 := (hbn.cell (p := (⟨w.heap.size, 2, none⟩ : Addr)) (show w.heap.size < w6'.heap.size by omega)).trans ca02; replace ca10 := (hbn.cell (p := (⟨w.heap.size + 1, 0, none⟩ : Addr)) (show w.heap.size + 1 < w6'.heap.size by omega)).trans ca10; replace ca11 := (hbn.cell (p := (⟨w.heap.size + 1, 1, none⟩ : Addr)) (show w.heap.size + 1 < w6'.heap.size by omega)).trans ca11; replace ca12 := (hbn.cell (p := (⟨w.heap.size + 1, 2, none⟩ : Addr)) (show w.heap.size + 1 < w6'.heap.size by omega)).trans ca12; clear hbn hcr2))
  clear hdr
  clear hu0
  clear hu1
  go_wp2_with fail
  refine (toGraph_any w7' r0 s0 _ es0.length (flatE es0) ((hr0.out.below hb7).mono hb7.size) (by omega)).mono ?_
  rintro e w8' ⟨x0a, x0c, rfl, hrow, hbn⟩
  have hb8 := hb7.trans (hbn.mono hb7.size)
  have hs8 := hbn.size
  replace ca00 := (hbn.cell (p := (⟨w.heap.size, 0, none⟩ : Addr)) (show w.heap.size < w7'.heap.size by omega)).trans ca00
  replace ca01 := (hbn.cell (p := (⟨w.heap.size, 1, none⟩ : Addr)) (show w.heap.size < w7'.heap.size by omega)).trans ca01
  replace ca02 := (hbn.cell (p := (⟨w.heap.size, 2, none⟩ : Addr)) (show w.heap.size < w7'.heap.size by omega)).trans ca02
  replace ca10 := (hbn.cell (p := (⟨w.heap.size + 1, 0, none⟩ : Addr)) (show w.heap.size + 1 < w7'.heap.size by omega)).trans ca10
  replace ca11 := (hbn.cell (p := (⟨w.heap.size + 1, 1, none⟩ : Addr)) (show w.heap.size + 1 < w7'.heap.size by omega)).trans ca11
  replace ca12 := (hbn.cell (p := (⟨w.heap.size + 1, 2, none⟩ : Addr)) (show w.heap.size + 1 < w7'.heap.size by omega)).trans ca12
  clear hbn
  have hx0 := hidI hrow
  clear hrow
  have da00_9 : ∀ o : Obj, (w8'.alloc o).cell? ⟨w.heap.size, 0, none⟩ = some (.int .i64 r0) := fun o => (((Below.refl w8'.heap.size w8').alloc (Nat.le_refl _) o).cell (p := (⟨w.heap.size, 0, none⟩ : Addr)) (show w.heap.size < w8'.heap.size by omega)).trans ca00
  have da01_9 : ∀ o : Obj, (w8'.alloc o).cell? ⟨w.heap.size, 1, none⟩ = some (.int .i64 s0) := fun o => (((Below.refl w8'.heap.size w8').alloc (Nat.le_refl _) o).cell (p := (⟨w.heap.size, 1, none⟩ : Addr)) (show w.heap.size < w8'.heap.size by omega)).trans ca01
  have da02_9 : ∀ o : Obj, (w8'.alloc o).cell? ⟨w.heap.size, 2, none⟩ = some (.slice ad0 es0.length cap0) := fun o => (((Below.refl w8'.heap.size w8').alloc (Nat.le_refl _) o).cell (p := (⟨w.heap.size, 2, none⟩ : Addr)) (show w.heap.size < w8'.heap.size by omega)).trans ca02
  have da10_9 : ∀ o : Obj, (w8'.alloc o).cell? ⟨w.heap.size + 1, 0, none⟩ = some (.int .i64 r1) := fun o => (((Below.refl w8'.heap.size w8').alloc (Nat.le_refl _) o).cell (p := (⟨w.heap.size + 1, 0, none⟩ : Addr)) (show w.heap.size + 1 < w8'.heap.size by omega)).trans ca10
  have da11_9 : ∀ o : Obj, (w8'.alloc o).cell? ⟨w.heap.size + 1, 1, none⟩ = some (.int .i64 s1) := fun o => (((Below.refl w8'.heap.size w8').alloc (Nat.le_refl _) o).cell (p := (⟨w.heap.size + 1, 1, none⟩ : Addr)) (show w.heap.size + 1 < w8'.heap.size by omega)).trans ca11
  have da12_9 : ∀ o : Obj, (w8'.alloc o).cell? ⟨w.heap.size + 1, 2, none⟩ = some (.slice ad1 es1.length cap1) := fun o => (((Below.refl w8'.heap.size w8').alloc (Nat.le_refl _) o).cell (p := (⟨w.heap.size + 1, 2, none⟩ : Addr)) (show w.heap.size + 1 < w8'.heap.size by omega)).trans ca12
  obtain ⟨w9', hw9⟩ : ∃ z, z = w8'.alloc (.cells #[.int .i64 r0, .int .i64 s0, .slice x0a es0.length x0c] 29) := ⟨_, rfl⟩
  have hbn : Below w8'.heap.size w8' w9' := by rw [hw9]; exact (Below.refl _ _).alloc (Nat.le_refl _) _
  have hlt9 : w8'.heap.size < w9'.heap.size := by rw [hw9]; simp
  have hnb : w9'.heap[w8'.heap.size]? = some (.cells #[.int .i64 r0, .int .i64 s0, .slice x0a es0.length x0c] 29 (0, 0)) := by rw [hw9]; exact heap_alloc_new _ _
  replace hw9 := hidI hw9
  have hb9 := hb8.trans (hbn.mono hb8.size)
  have hs9 := hbn.size
  replace hx0 := hidI (hx0.out.below hbn (by omega))
  replace ca00 := (hbn.cell (p := (⟨w.heap.size, 0, none⟩ : Addr)) (show w.heap.size < w8'.heap.size by omega)).trans ca00
  replace ca01 := (hbn.cell (p := (⟨w.heap.size, 1, none⟩ : Addr)) (show w.heap.size < w8'.heap.size by omega)).trans ca01
  replace ca02 := (hbn.cell (p := (⟨w.heap.size, 2, none⟩ : Addr)) (show w.heap.size < w8'.heap.size by omega)).trans ca02
  replace ca10 := (hbn.cell (p := (⟨w.heap.size + 1, 0, none⟩ : Addr)) (show w.heap.size + 1 < w8'.heap.size by omega)).trans ca10
  replace ca11 := (hbn.cell (p := (⟨w.heap.size + 1, 1, none⟩ : Addr)) (show w.heap.size + 1 < w8'.heap.size by omega)).trans ca11
  replace ca12 := (hbn.cell (p := (⟨w.heap.size + 1, 2, none⟩ : Addr)) (show w.heap.size + 1 < w8'.heap.size by omega)).trans ca12
  clear hbn
  have cx00 : w9'.cell? ⟨w8'.heap.size, 0, none⟩ = some (.int .i64 r0) := by simpa using cell_of_heap hnb 0
  have cx01 : w9'.cell? ⟨w8'.heap.size, 1, none⟩ = some (.int .i64 s0) := by simpa using cell_of_heap hnb 1
  have cx02 : w9'.cell? ⟨w8'.heap.size, 2, none⟩ = some (.slice x0a es0.length x0c) := by simpa using cell_of_heap hnb 2
  clear hnb
  go_wp2_with fail
  try rw [← hw9.out]
  clear da00_9 da01_9 da02_9 da10_9 da11_9 da12_9
  refine (toGraph_any w9' r1 s1 _ es1.length (flatE es1) ((hr1.out.below hb9).mono hb9.size) (by omega)).mono ?_
  rintro e w10' ⟨x1a, x1c, rfl, hrow, hbn⟩
  have hb10 := hb9.trans (hbn.mono hb9.size)
  have hs10 := hbn.size
  replace hx0 := hidI (hx0.out.below hbn (by omega))
  replace ca00 := (hbn.cell (p := (⟨w.heap.size, 0, none⟩ : Addr)) (show w.heap.size < w9'.heap.size by omega)).trans ca00
  replace ca01 := (hbn.cell (p := (⟨w.heap.size, 1, none⟩ : Addr)) (show w.heap.size < w9'.heap.size by omega)).trans ca01
  replace ca02 := (hbn.cell (p := (⟨w.heap.size, 2, none⟩ : Addr)) (show w.heap.size < w9'.heap.size by omega)).trans ca02
  replace ca10 := (hbn.cell (p := (⟨w.heap.size + 1, 0, none⟩ : Addr)) (show w.heap.size + 1 < w9'.heap.size by omega)).trans ca10
  replace ca11 := (hbn.cell (p := (⟨w.heap.size + 1, 1, none⟩ : Addr)) (show w.heap.size + 1 < w9'.heap.size by omega)).trans ca11
  replace ca12 := (hbn.cell (p := (⟨w.heap.size + 1, 2, none⟩ : Addr)) (show w.heap.size + 1 < w9'.heap.size by omega)).trans ca12
  replace cx00 := (hbn.cell (p := (⟨w8'.heap.size, 0, none⟩ : Addr)) (show w8'.heap.size < w9'.heap.size by omega)).trans cx00
  replace cx01 := (hbn.cell (p := (⟨w8'.heap.size, 1, none⟩ : Addr)) (show w8'.heap.size < w9'.heap.size by omega)).trans cx01
  replace cx02 := (hbn.cell (p := (⟨w8'.heap.size, 2, none⟩ : Addr)) (show w8'.heap.size < w9'.heap.size by omega)).trans cx02
  clear hbn
  have hx1 := hidI hrow
  clear hrow
  have da00_11 : ∀ o : Obj, (w10'.alloc o).cell? ⟨w.heap.size, 0, none⟩ = some (.int .i64 r0) := fun o => (((Below.refl w10'.heap.size w10').alloc (Nat.le_refl _) o).cell (p := (⟨w.heap.size, 0, none⟩ : Addr)) (show w.heap.size < w10'.heap.size by omega)).trans ca00
  have da01_11 : ∀ o : Obj, (w10'.alloc o).cell? ⟨w.heap.size, 1, none⟩ = some (.int .i64 s0) := fun o => (((Below.refl w10'.heap.size w10').alloc (Nat.le_refl _) o).cell (p := (⟨w.heap.size, 1, none⟩ : Addr)) (show w.heap.size < w10'.heap.size by omega)).trans ca01
  have da02_11 : ∀ o : Obj, (w10'.alloc o).cell? ⟨w.heap.size, 2, none⟩ = some (.slice ad0 es0.length cap0) := fun o => (((Below.refl w10'.heap.size w10').alloc (Nat.le_refl _) o).cell (p := (⟨w.heap.size, 2, none⟩ : Addr)) (show w.heap.size < w10'.heap.size by omega)).trans ca02
  have da10_11 : ∀ o : Obj, (w10'.alloc o).cell? ⟨w.heap.size + 1, 0, none⟩ = some (.int .i64 r1) := fun o => (((Below.refl w10'.heap.size w10').alloc (Nat.le_refl _) o).cell (p := (⟨w.heap.size + 1, 0, none⟩ : Addr)) (show w.heap.size + 1 < w10'.heap.size by omega)).trans ca10
  have da11_11 : ∀ o : Obj, (w10'.alloc o).cell? ⟨w.heap.size + 1, 1, none⟩ = some (.int .i64 s1) := fun o => (((Below.refl w10'.heap.size w10').alloc (Nat.le_refl _) o).cell (p := (⟨w.heap.size + 1, 1, none⟩ : Addr)) (show w.heap.size + 1 < w10'.heap.size by omega)).trans ca11
  have da12_11 : ∀ o : Obj, (w10'.alloc o).cell? ⟨w.heap.size + 1, 2, none⟩ = some (.slice ad1 es1.length cap1) := fun o => (((Below.refl w10'.heap.size w10').alloc (Nat.le_refl _) o).cell (p := (⟨w.heap.size + 1, 2, none⟩ : Addr)) (show w.heap.size + 1 < w10'.heap.size by omega)).trans ca12
  have dx00_11 : ∀ o : Obj, (w10'.alloc o).cell? ⟨w8'.heap.size, 0, none⟩ = some (.int .i64 r0) := fun o => (((Below.refl w10'.heap.size w10').alloc (Nat.le_refl _) o).cell (p := (⟨w8'.heap.size, 0, none⟩ : Addr)) (show w8'.heap.size < w10'.heap.size by omega)).trans cx00
  have dx01_11 : ∀ o : Obj, (w10'.alloc o).cell? ⟨w8'.heap.size, 1, none⟩ = some (.int .i64 s0) := fun o => (((Below.refl w10'.heap.size w10').alloc (Nat.le_refl _) o).cell (p := (⟨w8'.heap.size, 1, none⟩ : Addr)) (show w8'.heap.size < w10'.heap.size by omega)).trans cx01
  have dx02_11 : ∀ o : Obj, (w10'.alloc o).cell? ⟨w8'.heap.size, 2, none⟩ = some (.slice x0a es0.length x0c) := fun o => (((Below.refl w10'.heap.size w10').alloc (Nat.le_refl _) o).cell (p := (⟨w8'.heap.size, 2, none⟩ : Addr)) (show w8'.heap.size < w10'.heap.size by omega)).trans cx02
  obtain ⟨w11', hw11⟩ : ∃ z, z = w10'.alloc (.cells #[.int .i64 r1, .int .i64 s1, .slice x1a es1.length x1c] 29) := ⟨_, rfl⟩
  have hbn : Below w10'.heap.size w10' w11' := by rw [hw11]; exact (Below.refl _ _).alloc (Nat.le_refl _) _
  have hlt11 : w10'.heap.size < w11'.heap.size := by rw [hw11]; simp
  have hnb : w11'.heap[w10'.heap.size]? = some (.cells #[.int .i64 r1, .int .i64 s1, .slice x1a es1.length x1c] 29 (0, 0)) := by rw [hw11]; exact heap_alloc_new _ _
  replace hw11 := hidI hw11
  have hb11 := hb10.trans (hbn.mono hb10.size)
  have hs11 := hbn.size
  replace hx0 := hidI (hx0.out.below hbn (by omega))
  replace hx1 := hidI (hx1.out.below hbn (by omega))
  replace ca00 := (hbn.cell (p := (⟨w.heap.size, 0, none⟩ : Addr)) (show w.heap.size < w10'.heap.size by omega)).trans ca00
  replace ca01 := (hbn.cell (p := (⟨w.heap.size, 1, none⟩ : Addr)) (show w.heap.size < w10'.heap.size by omega)).trans ca01
  replace ca02 := (hbn.cell (p := (⟨w.heap.size, 2, none⟩ : Addr)) (show w.heap.size < w10'.heap.size by omega)).trans ca02
  replace ca10 := (hbn.cell (p := (⟨w.heap.size + 1, 0, none⟩ : Addr)) (show w.heap.size + 1 < w10'.heap.size by omega)).trans ca10
  replace ca11 := (hbn.cell (p := (⟨w.heap.size + 1, 1, none⟩ : Addr)) (show w.heap.size + 1 < w10'.heap.size by omega)).trans ca11
  replace ca12 := (hbn.cell (p := (⟨w.heap.size + 1, 2, none⟩ : Addr)) (show w.heap.size + 1 < w10'.heap.size by omega)).trans ca12
  replace cx00 := (hbn.cell (p := (⟨w8'.heap.size, 0, none⟩ : Addr)) (show w8'.heap.size < w10'.heap.size by omega)).trans cx00
  replace cx01 := (hbn.cell (p := (⟨w8'.heap.size, 1, none⟩ : Addr)) (show w8'.heap.size < w10'.heap.size by omega)).trans cx01
  replace cx02 := (hbn.cell (p := (⟨w8'.heap.size, 2, none⟩ : Addr)) (show w8'.heap.size < w10'.heap.size by omega)).trans cx02
  clear hbn
  have cx10 : w11'.cell? ⟨w10'.heap.size, 0, none⟩ = some (.int .i64 r1) := by simpa using cell_of_heap hnb 0
  have cx11 : w11'.cell? ⟨w10'.heap.size, 1, none⟩ = some (.int .i64 s1) := by simpa using cell_of_heap hnb 1
  have cx12 : w11'.cell? ⟨w10'.heap.size, 2, none⟩ = some (.slice x1a es1.length x1c) := by simpa using cell_of_heap hnb 2
  clear hnb
  go_wp2_with fail
  try rw [← hw11.out]
  clear da00_11 da01_11 da02_11 da10_11 da11_11 da12_11 dx00_11 dx01_11 dx02_11
  refine (progIsIn w11' r0 s0 _ es0 r1 s1 _ es1 (hx0.out.read.mono (by omega)) (hx1.out.read.mono (by omega)) (by omega) (by omega)).mono ?_
  intro e w12' hpost
  rw [← hF0.out] at hpost
  obtain ⟨rfl, hbn⟩ := hpost
  have hb12 := hb11.trans (hbn.mono hb11.size)
  have hs12 := hbn.size
  replace hx0 := hidI (hx0.out.below hbn (by omega))
  replace hx1 := hidI (hx1.out.below hbn (by omega))
  replace ca00 := (hbn.cell (p := (⟨w.heap.size, 0, none⟩ : Addr)) (show w.heap.size < w11'.heap.size by omega)).trans ca00
  replace ca01 := (hbn.cell (p := (⟨w.heap.size, 1, none⟩ : Addr)) (show w.heap.size < w11'.heap.size by omega)).trans ca01
  replace ca02 := (hbn.cell (p := (⟨w.heap.size, 2, none⟩ : Addr)) (show w.heap.size < w11'.heap.size by omega)).trans ca02
  replace ca10 := (hbn.cell (p := (⟨w.heap.size + 1, 0, none⟩ : Addr)) (show w.heap.size + 1 < w11'.heap.size by omega)).trans ca10
  replace ca11 := (hbn.cell (p := (⟨w.heap.size + 1, 1, none⟩ : Addr)) (show w.heap.size + 1 < w11'.heap.size by omega)).trans ca11
  replace ca12 := (hbn.cell (p := (⟨w.heap.size + 1, 2, none⟩ : Addr)) (show w.heap.size + 1 < w11'.heap.size by omega)).trans ca12
  replace cx00 := (hbn.cell (p := (⟨w8'.heap.size, 0, none⟩ : Addr)) (show w8'.heap.size < w11'.heap.size by omega)).trans cx00
  replace cx01 := (hbn.cell (p := (⟨w8'.heap.size, 1, none⟩ : Addr)) (show w8'.heap.size < w11'.heap.size by omega)).trans cx01
  replace cx02 := (hbn.cell (p := (⟨w8'.heap.size, 2, none⟩ : Addr)) (show w8'.heap.size < w11'.heap.size by omega)).trans cx02
  replace cx10 := (hbn.cell (p := (⟨w10'.heap.size, 0, none⟩ : Addr)) (show w10'.heap.size < w11'.heap.size by omega)).trans cx10
  replace cx11 := (hbn.cell (p := (⟨w10'.heap.size, 1, none⟩ : Addr)) (show w10'.heap.size < w11'.heap.size by omega)).trans cx11
  replace cx12 := (hbn.cell (p := (⟨w10'.heap.size, 2, none⟩ : Addr)) (show w10'.heap.size < w11'.heap.size by omega)).trans cx12
  clear hbn
  go_wp2_with fail
  have hdr := below_dn (Below.refl w12'.heap.size w12') 1
  have hcg := toGraph_any w12'.drew r0 s0 _ es0.length (flatE es0) (((hr0.out.below hb12).below (hdr.mono hb12.size)).mono hb12.size) (by omega)
  go_region_held3 (fun z => z.cell? ⟨w8'.heap.size, 0, none⟩ = some (.int .i64 r0) ∧ z.cell? ⟨w8'.heap.size, 1, none⟩ = some (.int .i64 s0) ∧ z.cell? ⟨w8'.heap.size, 2, none⟩ = some (.slice x0a es0.length x0c) ∧ z.cell? ⟨w.heap.size, 0, none⟩ = some (.int .i64 r0) ∧ z.cell? ⟨w.heap.size, 1, none⟩ = some (.int .i64 s0) ∧ z.cell? ⟨w.heap.size, 2, none⟩ = some (.slice ad0 es0.length cap0)) (first | ((repeat' apply And.intro) <;> assumption) | go_keep) (first | (go_at_call 14; (with_reducible refine hcg.mono ?_); rintro e w13' ⟨ta, tc, rfl, hrow, hbn⟩; replace hbn := hdr.trans hbn; have hb13 := hb12.trans (hbn.mono hb12.size); have hs13 := hbn.size; replace hx0 := hidI (hx0.out.below hbn (by omega)); replace hx1 := hidI (hx1.out.below hbn (by omega)); replace ca00 := (hbn.cell (p := (⟨w.heap.size, 0, none⟩ : Addr)) (show w.heap.size < w12'.heap.size by omega)).trans ca00; replace ca01 := (hbn.cell (p := (⟨w.heap.size, 1, none⟩ : Addr)) (show w.heap.size < w12'.heap.size by omega)).trans ca01; replace ca02 := (hbn.cell (p := (⟨w.heap.size, 2, none⟩ : Addr)) (show w.heap.size < w12'.heap.size by omega)).trans ca02; replace ca10 := (hbn.cell (p := (⟨w.heap.size + 1, 0, none⟩ : Addr)) (show w.heap.size + 1 < w12'.heap.size by omega)).trans ca10; replace ca11 := (hbn.cell (p := (⟨w.heap.size + 1, 1, none⟩ : Addr)) (show w.heap.size + 1 < w12'.heap.size by omega)).trans ca11; replace ca12 := (hbn.cell (p := (⟨w.heap.size + 1, 2, none⟩ : Addr)) (show w.heap.size + 1 < w12'.heap.size by omega)).trans ca12; replace cx00 := (hbn.cell (p := (⟨w8'.heap.size, 0, none⟩ : Addr)) (show w8'.heap.size < w12'.heap.size by omega)).trans cx00; replace cx01 := (hbn.cell (p := (⟨w8'.heap.size, 1, none⟩ : Addr)) (show w8'.heap.size < w12'.heap.size by omega)).trans cx01; replace cx02 := (hbn.cell (p := (⟨w8'.heap.size, 2, none⟩ : Addr)) (show w8'.heap.size < w12'.heap.size by omega)).trans cx02; replace cx10 := (hbn.cell (p := (⟨w10'.heap.size, 0, none⟩ : Addr)) (show w10'.heap.size < w12'.heap.size by omega)).trans cx10; replace cx11 := (hbn.cell (p := (⟨w10'.heap.size, 1, none⟩ : Addr)) (show w10'.heap.size < w12'.heap.size by omega)).trans cx11; replace cx12 := (hbn.cell (p := (⟨w10'.heap.size, 2, none⟩ : Addr)) (show w10'.heap.size < w12'.heap.size by omega)).trans cx12; have hce := eqGraph_same w13' r0 s0 _ _ es0.length (flatE es0) (hx0.out.read.mono (by omega)) (hrow.read.mono (by omega)); clear hbn hcg) | (go_at_call 16; (with_reducible refine hce.mono ?_); rintro e w14' ⟨rfl, hbn⟩; have hb14 := hb13.trans (hbn.mono hb13.size); have hs14 := hbn.size; replace hx0 := hidI (hx0.out.below hbn (by omega)); replace hx1 := hidI (hx1.out.below hbn (by omega)); replace ca00 := (hbn.cell (p := (⟨w.heap.size, 0, none⟩ : Addr)) (show w.heap.size < w13'.heap.size by omega)).trans ca00; replace ca01 := (hbn.cell (p := (⟨w.heap.size, 1, none⟩ : Addr)) (show w.heap.size < w13'.heap.size by omega)).trans ca01; replace ca02 := (hbn.cell (p := (⟨w.heap.size, 2, none⟩ : Addr)) (show w.heap.size < w13'.heap.size by omega)).trans ca02; replace ca10 := (hbn.cell (p := (⟨w.heap.size + 1, 0, none⟩ : Addr)) (show w.heap.size + 1 < w13'.heap.size by omega)).trans ca10; replace ca11 := (hbn.cell (p := (⟨w.heap.size + 1, 1, none⟩ : Addr)) (show w.heap.size + 1 < w13'.heap.size by omega)).trans ca11; replace ca12 := (hbn.cell (p := (⟨w.heap.size + 1, 2, none⟩ : Addr)) (show w.heap.size + 1 < w13'.heap.size by omega)).trans ca12; replace cx00 := (hbn.cell (p := (⟨w8'.heap.size, 0, none⟩ : Addr)) (show w8'.heap.size < w13'.heap.size by omega)).trans cx00; replace cx01 := (hbn.cell (p := (⟨w8'.heap.size, 1, none⟩ : Addr)) (show w8'.heap.size < w13'.heap.size by omega)).trans cx01; replace cx02 := (hbn.cell (p := (⟨w8'.heap.size, 2, none⟩ : Addr)) (show w8'.heap.size < w13'.heap.size by omega)).trans cx02; replace cx10 := (hbn.cell (p := (⟨w10'.heap.size, 0, none⟩ : Addr)) (show w10'.heap.size < w13'.heap.size by omega)).trans cx10; replace cx11 := (hbn.cell (p := (⟨w10'.heap.size, 1, none⟩ : Addr)) (show w10'.heap.size < w13'.heap.size by omega)).trans cx11; replace cx12 := (hbn.cell (p := (⟨w10'.heap.size, 2, none⟩ : Addr)) (show w10'.heap.size < w13'.heap.size by omega)).trans cx12; clear hbn hce hrow))
  go_wp2_with fail
  have hdr := below_dn (Below.refl w14'.heap.size w14') 1
  have hcg := toGraph_any w14'.drew r1 s1 _ es1.length (flatE es1) (((hr1.out.below hb14).below (hdr.mono hb14.size)).mono hb14.size) (by omega)
  go_region_held3 (fun z => z.cell? ⟨w10'.heap.size, 0, none⟩ = some (.int .i64 r1) ∧ z.cell? ⟨w10'.heap.size, 1, none⟩ = some (.int .i64 s1) ∧ z.cell? ⟨w10'.heap.size, 2, none⟩ = some (.slice x1a es1.length x1c) ∧ z.cell? ⟨w.heap.size + 1, 0, none⟩ = some (.int .i64 r1) ∧ z.cell? ⟨w.heap.size + 1, 1, none⟩ = some (.int .i64 s1) ∧ z.cell? ⟨w.heap.size + 1, 2, none⟩ = some (.slice ad1 es1.length cap1)) (first | ((repeat' apply And.intro) <;> assumption) | go_keep) (first | (go_at_call 14; (with_reducible refine hcg.mono ?_); rintro e w15' ⟨ta, tc, rfl, hrow, hbn⟩; replace hbn := hdr.trans hbn; have hb15 := hb14.trans (hbn.mono hb14.size); have hs15 := hbn.size; replace hx0 := hidI (hx0.out.below hbn (by omega)); replace hx1 := hidI (hx1.out.below hbn (by omega)); replace ca00 := (hbn.cell (p := (⟨w.heap.size, 0, none⟩ : Addr)) (show w.heap.size < w14'.heap.size by omega)).trans ca00; replace ca01 := (hbn.cell (p := (⟨w.heap.size, 1, none⟩ : Addr)) (show w.heap.size < w14'.heap.size by omega)).trans ca01; replace ca02 := (hbn.cell (p := (⟨w.heap.size, 2, none⟩ : Addr)) (show w.heap.size < w14'.heap.size by omega)).trans ca02; replace ca10 := (hbn.cell (p := (⟨w.heap.size + 1, 0, none⟩ : Addr)) (show w.heap.size + 1 < w14'.heap.size by omega)).trans ca10; replace ca11 := (hbn.cell (p := (⟨w.heap.size + 1, 1, none⟩ : Addr)) (show w.heap.size + 1 < w14'.heap.size by omega)).trans ca11; replace ca12 := (hbn.cell (p := (⟨w.heap.size + 1, 2, none⟩ : Addr)) (show w.heap.size + 1 < w14'.heap.size by omega)).trans ca12; replace cx00 := (hbn.cell (p := (⟨w8'.heap.size, 0, none⟩ : Addr)) (show w8'.heap.size < w14'.heap.size by omega)).trans cx00; replace cx01 := (hbn.cell (p := (⟨w8'.heap.size, 1, none⟩ : Addr)) (show w8'.heap.size < w14'.heap.size by omega)).trans cx01; replace cx02 := (hbn.cell (p := (⟨w8'.heap.size, 2, none⟩ : Addr)) (show w8'.heap.size < w14'.heap.size by omega)).trans cx02; replace cx10 := (hbn.cell (p := (⟨w10'.heap.size, 0, none⟩ : Addr)) (show w10'.heap.size < w14'.heap.size by omega)).trans cx10; replace cx11 := (hbn.cell (p := (⟨w10'.heap.size, 1, none⟩ : Addr)) (show w10'.heap.size < w14'.heap.size by omega)).trans cx11; replace cx12 := (hbn.cell (p := (⟨w10'.heap.size, 2, none⟩ : Addr)) (show w10'.heap.size < w14'.heap.size by omega)).trans cx12; have hce := eqGraph_same w15' r1 s1 _ _ es1.length (flatE es1) (hx1.out.read.mono (by omega)) (hrow.read.mono (by omega)); clear hbn hcg) | (go_at_call 16; (with_reducible refine hce.mono ?_); rintro e w16' ⟨rfl, hbn⟩; have hb16 := hb15.trans (hbn.mono hb15.size); have hs16 := hbn.size; replace hx0 := hidI (hx0.out.below hbn (by omega)); replace hx1 := hidI (hx1.out.below hbn (by omega)); replace ca00 := (hbn.cell (p := (⟨w.heap.size, 0, none⟩ : Addr)) (show w.heap.size < w15'.heap.size by omega)).trans ca00; replace ca01 := (hbn.cell (p := (⟨w.heap.size, 1, none⟩ : Addr)) (show w.heap.size < w15'.heap.size by omega)).trans ca01; replace ca02 := (hbn.cell (p := (⟨w.heap.size, 2, none⟩ : Addr)) (show w.heap.size < w15'.heap.size by omega)).trans ca02; replace ca10 := (hbn.cell (p := (⟨w.heap.size + 1, 0, none⟩ : Addr)) (show w.heap.size + 1 < w15'.heap.size by omega)).trans ca10; replace ca11 := (hbn.cell (p := (⟨w.heap.size + 1, 1, none⟩ : Addr)) (show w.heap.size + 1 < w15'.heap.size by omega)).trans ca11; replace ca12 := (hbn.cell (p := (⟨w.heap.size + 1, 2, none⟩ : Addr)) (show w.heap.size + 1 < w15'.heap.size by omega)).trans ca12; replace cx00 := (hbn.cell (p := (⟨w8'.heap.size, 0, none⟩ : Addr)) (show w8'.heap.size < w15'.heap.size by omega)).trans cx00; replace cx01 := (hbn.cell (p := (⟨w8'.heap.size, 1, none⟩ : Addr)) (show w8'.heap.size < w15'.heap.size by omega)).trans cx01; replace cx02 := (hbn.cell (p := (⟨w8'.heap.size, 2, none⟩ : Addr)) (show w8'.heap.size < w15'.heap.size by omega)).trans cx02; replace cx10 := (hbn.cell (p := (⟨w10'.heap.size, 0, none⟩ : Addr)) (show w10'.heap.size < w15'.heap.size by omega)).trans cx10; replace cx11 := (hbn.cell (p := (⟨w10'.heap.size, 1, none⟩ : Addr)) (show w10'.heap.size < w15'.heap.size by omega)).trans cx11; replace cx12 := (hbn.cell (p := (⟨w10'.heap.size, 2, none⟩ : Addr)) (show w10'.heap.size < w15'.heap.size by omega)).trans cx12; clear hbn hce hrow))
  go_wp2_with fail
  go_ret
  exact ⟨rfl, hb16⟩
theorem walk (W : World) (r0 s0 : Int) (a0 : Option Addr) (len0 cap0 : Nat) (es0 : List Ed) (r1 s1 : Int) (a1 : Option Addr) (len1 cap1 : Nat) (es1 : List Ed) (u0 : (Lit.int .i64 r0).wf = true) (y0 : (Lit.int .i64 s0).wf = true) (w0 : IsRowE W a0 len0 cap0 es0) (u1 : (Lit.int .i64 r1).wf = true) (y1 : (Lit.int .i64 s1).wf = true) (w1 : IsRowE W a1 len1 cap1 es1) :
    Calls Try.prog 5 #[.agg #[.int .i64 r0, .int .i64 s0, .slice a0 len0 cap0], .agg #[.int .i64 r1, .int .i64 s1, .slice a1 len1 cap1]] W fun e w' => e = .returned (.bool true) ∧ Below W.heap.size W w' := by
  obtain ⟨e0, i0, m0⟩ := w0.len
  obtain ⟨e1, i1, m1⟩ := w1.len
  by_cases s0_ : 1048576 < len0
  · exact walk0_big0 W r0 s0 a0 len0 cap0 r1 s1 a1 len1 cap1 m0 s0_
  by_cases s1_ : 1048576 < len0 + len1
  · exact walk0_big1 W r0 s0 a0 len0 cap0 r1 s1 a1 len1 cap1 m0 m1 (by omega) s1_
  exact walk0 W r0 s0 _ es0 (wf_i64 u0) (wf_i64 y0) (w0.read (by omega)) i0 r1 s1 _ es1 (wf_i64 u1) (wf_i64 y1) (w1.read (by omega)) i1 (by omega)

/-! ### The row's step -/
set_option maxRecDepth 100000 in
theorem lifted (os : Os) (started : os.Started) (H : Type) (enc : TypeId × Value → H) :
    ReturnsInHanded {} Try.checked os 5 .any (Rows.fnExactIsInsideSpec.pre6 enc Try.prog Try.f5 Rows.fnExactIsInsideRow.domain false) (Rows.fnExactIsInsideSpec.post enc Try.prog Try.f5 false true false false) := by
  refine returnsInHanded_of_change (C := Try.checked) own started (by kernel_rfl) Try.func5
    (ChangeSpec.witness6 (enc := enc) (C := Try.checked) false ⟨#[], #[.agg #[.int .i64 0, .int .i64 0, .slice none 0 0], .agg #[.int .i64 0, .int .i64 0, .slice none 0 0]], []⟩ 8 (by kernel_rfl) (by kernel_rfl) (by kernel_rfl) (by kernel_rfl)) ?_
  intro W base args ds gs before hval0 hW hcnd _
  have hval : ∀ (j : Nat) t v, Try.f5.params[j]? = some t → args[j]? = some v → Value.okWide Try.prog W .any base t v := hval0
  have hW' := hW
  obtain ⟨p, q, hA0, hV, rfl, hfz, hnd⟩ := hW
  have hA : DataW.TrodAll enc Try.prog W 0 (fun _ => true) true Try.f5.params.toList args.toList ds p := hA0
  rw [Try.params5] at hA hval
  obtain ⟨v0, vs0, d0, ds0, p0, q0, hargs, rfl, rfl, h0, r0⟩ := trodAll_cons hA
  obtain ⟨v1, vs1, d1, ds1, p1, q1, rfl, rfl, rfl, h1, r1⟩ := trodAll_cons r0
  obtain ⟨rfl, rfl, rfl⟩ := trodAll_nil r1
  obtain rfl : args = #[v0, v1] := by cases args; simp_all
  obtain ⟨rfl, rfl⟩ := trodVars_none hV
  have k0 := h0
  have lt0 : ∀ x ∈ p0, x.block < W.heap.size := by obtain ⟨m, hm⟩ := k0; exact DataW.trod_lt m _ _ _ hm
  obtain ⟨gr0, gs0, a0, len0, cap0, es0, rfl, u0, y0, w0⟩ := open_graph (hval 0 24 v0 rfl rfl) h0
  have k1 := h1
  have lt1 : ∀ x ∈ p1, x.block < W.heap.size := by obtain ⟨m, hm⟩ := k1; exact DataW.trod_lt m _ _ _ hm
  obtain ⟨gr1, gs1, a1, len1, cap1, es1, rfl, u1, y1, w1⟩ := open_graph (hval 1 24 v1 rfl rfl) h1
  clear hA0 hval0
  refine (walk W gr0 gs0 a0 len0 cap0 es0 gr1 gs1 a1 len1 cap1 es1 u0 y0 w0 u1 y1 w1).mono fun e W' ⟨he, hg⟩ => ?_
  subst he
  exact ⟨_, rfl, _, _, _, [], _, [], hW', trodAll_mk1 (shut_bool Try.underlying4 _), (trodAll_cons_mk (Below.trod laidOut (by kernel_rfl) (of_decide_eq_true (by kernel_rfl)) k0 hg lt0) (trodAll_cons_mk (Below.trod laidOut (by kernel_rfl) (of_decide_eq_true (by kernel_rfl)) k1 hg lt1) trodAll_mk0)), rfl, hg.frame _, fun h => by cases h⟩

theorem over : Rows.fnExactIsInsideRow.holds Try.pinned (OpenSpec.ofChange Rows.fnExactIsInsideSpec) :=
  OpenClaim.holds_of_wide 5 Try.f5 rfl rfl rfl rfl rfl rfl rfl ⟨rfl, rfl, rfl, rfl, rfl⟩ rfl rfl rfl rfl rfl (by kernel_rfl) Try.func5 (by kernel_rfl)
    (of_decide_eq_true (by kernel_rfl)) (by unfold Func.isWrapper; first | (rw [if_pos (by decide +kernel)]; kernel_rfl) | (rw [if_neg (by decide +kernel)]; exact ⟨rfl, rfl⟩))
    (fun os started H enc _ => lifted os started H enc)

theorem proved : Rows.FnExactIsInsideSaid := over
#print axioms proved
end Go.Proofs.Ytjnhhhnehkmfmaa.fnExactIsInside
