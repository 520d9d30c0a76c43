/- For every graph and edge, laws.FnExactLoopOf returns true and leaves its arguments as they are: the program's word is the model's, in memory of its own. Conditions: none beyond the row's. -/
import Derived.Test.YtacmpbekgipkfaaQB
import Derived.Test.YtacmpbekgipkfaaEF
import Derived.Test.YtacmpbekgipkfaaEM
import Derived.WalkKit
import Derived.ProofKit
import Derived.OpenShut
import Derived.ShutString
import Derived.Below
namespace Go.Proofs.Ytacmpbekgipkfaa.fnExactLoopOf
open Go.ChangeShapes Go.WideShapes Go.ChangeAt Go.RowKit
open Go.ChangeMaps (open_string shut_string)
set_option linter.unusedVariables false

theorem own : ownKnob Try.prog.godebug = none := by kernel_rfl

theorem laidOut : laidOutB Try.prog = true := by kernel_rfl
theorem walk0_big0 (w : World) (r0 s0 : Int) (a0 : Option Addr) (len0 cap0 : Nat) (f1 l1 t1 : Int) (m0 : (len0 : Int) ≤ 9223372036854775807) (hbig : 1048576 < len0) :
    Calls Try.prog 6 #[.agg #[.int .i64 r0, .int .i64 s0, .slice a0 len0 cap0], .agg #[.int .i64 f1, .int .i64 l1, .int .i64 t1]] w fun e w' => e = .returned (.bool true) ∧ Below w.heap.size w w' := by
  have hb0 := Below.refl w.heap.size w
  obtain ⟨b0, hx0⟩ : ∃ z, z = w.alloc (.cells #[.int .i64 r0, .int .i64 s0, .slice a0 len0 cap0] 24) := ⟨_, rfl⟩
  have hy0 : Below w.heap.size w b0 := by rw [hx0]; exact hb0.alloc hb0.size _
  have hnb0 : b0.heap[w.heap.size]? = some (.cells #[.int .i64 r0, .int .i64 s0, .slice a0 len0 cap0] 24 (0, 0)) := by rw [hx0]; exact heap_alloc_new _ _
  have hlt0 : w.heap.size < b0.heap.size := by rw [hx0]; simp
  have c00 := cell_of_heap hnb0 0
  simp at c00
  have c01 := cell_of_heap hnb0 1
  simp at c01
  have c02 := cell_of_heap hnb0 2
  simp at c02
  clear hnb0
  replace hx0 := hidI hx0
  obtain ⟨b1, hx1⟩ : ∃ z, z = b0.alloc (.cells #[.int .i64 f1, .int .i64 l1, .int .i64 t1] 42) := ⟨_, rfl⟩
  have hy1 : Below w.heap.size w b1 := by rw [hx1]; exact hy0.alloc hy0.size _
  have hnb1 : b1.heap[b0.heap.size]? = some (.cells #[.int .i64 f1, .int .i64 l1, .int .i64 t1] 42 (0, 0)) := by rw [hx1]; exact heap_alloc_new _ _
  have hlt1 : b0.heap.size < b1.heap.size := by rw [hx1]; simp
  replace c00 := ((show Below b0.heap.size b0 b1 by rw [hx1]; exact (Below.refl _ _).alloc (Nat.le_refl _) _).cell (p := (⟨w.heap.size, 0, none⟩ : Addr)) (show w.heap.size < b0.heap.size by omega)).trans c00
  replace c01 := ((show Below b0.heap.size b0 b1 by rw [hx1]; exact (Below.refl _ _).alloc (Nat.le_refl _) _).cell (p := (⟨w.heap.size, 1, none⟩ : Addr)) (show w.heap.size < b0.heap.size by omega)).trans c01
  replace c02 := ((show Below b0.heap.size b0 b1 by rw [hx1]; exact (Below.refl _ _).alloc (Nat.le_refl _) _).cell (p := (⟨w.heap.size, 2, none⟩ : Addr)) (show w.heap.size < b0.heap.size by omega)).trans c02
  rw [show b0.heap.size = w.heap.size + 1 by rw [hx0.out]; simp] at hnb1
  have hlu1 : w.heap.size + 1 < b1.heap.size := by have := (show b0.heap.size = w.heap.size + 1 by rw [hx0.out]; simp); omega
  have c10 := cell_of_heap hnb1 0
  simp at c10
  have c11 := cell_of_heap hnb1 1
  simp at c11
  have c12 := cell_of_heap hnb1 2
  simp at c12
  clear hnb1
  replace hx1 := hidI hx1
  go_enter Try.func6, Try.ntmps6
  go_wp2_with fail
  rw [← hx0.out]
  rw [← hx1.out]
  refine (szGraph_any b1 r0 s0 a0 len0 cap0 1048576 m0 (by omega) (by omega)).mono ?_
  rw [if_pos (by omega)]
  rintro e w1 ⟨rfl, hbn1⟩
  have hb1 := hy1.trans (hbn1.mono hy1.size)
  have hs1 := hbn1.size
  replace c00 := (hbn1.cell (p := (⟨w.heap.size, 0, none⟩ : Addr)) (show w.heap.size < b1.heap.size by omega)).trans c00
  replace c01 := (hbn1.cell (p := (⟨w.heap.size, 1, none⟩ : Addr)) (show w.heap.size < b1.heap.size by omega)).trans c01
  replace c02 := (hbn1.cell (p := (⟨w.heap.size, 2, none⟩ : Addr)) (show w.heap.size < b1.heap.size by omega)).trans c02
  replace c10 := (hbn1.cell (p := (⟨w.heap.size + 1, 0, none⟩ : Addr)) (show w.heap.size + 1 < b1.heap.size by omega)).trans c10
  replace c11 := (hbn1.cell (p := (⟨w.heap.size + 1, 1, none⟩ : Addr)) (show w.heap.size + 1 < b1.heap.size by omega)).trans c11
  replace c12 := (hbn1.cell (p := (⟨w.heap.size + 1, 2, none⟩ : Addr)) (show w.heap.size + 1 < b1.heap.size by omega)).trans c12
  go_wp2
  go_ret
  exact ⟨rfl, hb1⟩
set_option maxHeartbeats 3200000 in
theorem walk0 (w : World) (r0 s0 : Int) (v0 : Value) (es0 : List Ed) (br0 : -9223372036854775808 ≤ r0 ∧ r0 ≤ 9223372036854775807) (bs0 : -9223372036854775808 ≤ s0 ∧ s0 ≤ 9223372036854775807) (h0 : ReadE w.heap.size w v0 es0) (i0 : InE es0) (f1 l1 t1 : Int) (bf1 : -9223372036854775808 ≤ f1 ∧ f1 ≤ 9223372036854775807) (bl1 : -9223372036854775808 ≤ l1 ∧ l1 ≤ 9223372036854775807) (bt1 : -9223372036854775808 ≤ t1 ∧ t1 ≤ 9223372036854775807) (lg : es0.length ≤ 1048576) :
    Calls Try.prog 6 #[.agg #[.int .i64 r0, .int .i64 s0, v0], .agg #[.int .i64 f1, .int .i64 l1, .int .i64 t1]] w fun e w' => e = .returned (.bool true) ∧ Below w.heap.size w w' := by
  obtain ⟨ad0, cap0, rfl, hnc0⟩ := h0.form
  have hr0 := hidI h0
  clear h0 hnc0
  replace i0 := hidI i0
  obtain ⟨F0, hF0⟩ : ∃ F, F = loL r0 s0 es0 (f1, l1, t1) := ⟨_, rfl⟩
  have hfl0 : F0.length ≤ 1000000000 := by rw [hF0]; have := loL_length r0 s0 es0 (f1, l1, t1); omega
  replace hF0 := hidI hF0
  have hbw := Below.refl w.heap.size w
  obtain ⟨w1', hw1⟩ : ∃ z, z = w.alloc (.cells #[.int .i64 r0, .int .i64 s0, .slice ad0 es0.length cap0] 24) := ⟨_, rfl⟩
  have hbn : Below w.heap.size w w1' := by rw [hw1]; exact (Below.refl _ _).alloc (Nat.le_refl _) _
  have hlt1 : w.heap.size < w1'.heap.size := by rw [hw1]; simp
  have hnb : w1'.heap[w.heap.size]? = some (.cells #[.int .i64 r0, .int .i64 s0, .slice ad0 es0.length cap0] 24 (0, 0)) := by rw [hw1]; exact heap_alloc_new _ _
  replace hw1 := hidI hw1
  have hb1 := hbw.trans (hbn.mono hbw.size)
  have hs1 := hbn.size
  clear hbn
  have ca00 : w1'.cell? ⟨w.heap.size, 0, none⟩ = some (.int .i64 r0) := by simpa using cell_of_heap hnb 0
  have ca01 : w1'.cell? ⟨w.heap.size, 1, none⟩ = some (.int .i64 s0) := by simpa using cell_of_heap hnb 1
  have ca02 : w1'.cell? ⟨w.heap.size, 2, none⟩ = some (.slice ad0 es0.length cap0) := by simpa using cell_of_heap hnb 2
  clear hnb
  obtain ⟨w2', hw2⟩ : ∃ z, z = w1'.alloc (.cells #[.int .i64 f1, .int .i64 l1, .int .i64 t1] 42) := ⟨_, rfl⟩
  have hbn : Below w1'.heap.size w1' w2' := by rw [hw2]; exact (Below.refl _ _).alloc (Nat.le_refl _) _
  have hlt2 : w1'.heap.size < w2'.heap.size := by rw [hw2]; simp
  have hnb : w2'.heap[w1'.heap.size]? = some (.cells #[.int .i64 f1, .int .i64 l1, .int .i64 t1] 42 (0, 0)) := by rw [hw2]; exact heap_alloc_new _ _
  replace hw2 := hidI hw2
  have hb2 := hb1.trans (hbn.mono hb1.size)
  have hs2 := hbn.size
  replace ca00 := (hbn.cell (p := (⟨w.heap.size, 0, none⟩ : Addr)) (show w.heap.size < w1'.heap.size by omega)).trans ca00
  replace ca01 := (hbn.cell (p := (⟨w.heap.size, 1, none⟩ : Addr)) (show w.heap.size < w1'.heap.size by omega)).trans ca01
  replace ca02 := (hbn.cell (p := (⟨w.heap.size, 2, none⟩ : Addr)) (show w.heap.size < w1'.heap.size by omega)).trans ca02
  clear hbn
  rw [show w1'.heap.size = w.heap.size + 1 by rw [hw1.out]; simp] at hnb
  have ca10 : w2'.cell? ⟨w.heap.size + 1, 0, none⟩ = some (.int .i64 f1) := by simpa using cell_of_heap hnb 0
  have ca11 : w2'.cell? ⟨w.heap.size + 1, 1, none⟩ = some (.int .i64 l1) := by simpa using cell_of_heap hnb 1
  have ca12 : w2'.cell? ⟨w.heap.size + 1, 2, none⟩ = some (.int .i64 t1) := by simpa using cell_of_heap hnb 2
  have hlu2 : w.heap.size + 1 < w2'.heap.size := by have := (show w1'.heap.size = w.heap.size + 1 by rw [hw1.out]; simp); omega
  clear hnb
  go_enter Try.func6, Try.ntmps6
  go_wp2_with fail
  try rw [← hw1.out]
  try rw [← hw2.out]
  refine (szGraph_any w2' r0 s0 _ es0.length cap0 1048576 (by omega) (by omega) (by omega)).mono ?_
  rw [if_neg (by omega)]
  rintro e w3' ⟨rfl, hbn⟩
  have hb3 := hb2.trans (hbn.mono hb2.size)
  have hs3 := hbn.size
  replace ca00 := (hbn.cell (p := (⟨w.heap.size, 0, none⟩ : Addr)) (show w.heap.size < w2'.heap.size by omega)).trans ca00
  replace ca01 := (hbn.cell (p := (⟨w.heap.size, 1, none⟩ : Addr)) (show w.heap.size < w2'.heap.size by omega)).trans ca01
  replace ca02 := (hbn.cell (p := (⟨w.heap.size, 2, none⟩ : Addr)) (show w.heap.size < w2'.heap.size by omega)).trans ca02
  replace ca10 := (hbn.cell (p := (⟨w.heap.size + 1, 0, none⟩ : Addr)) (show w.heap.size + 1 < w2'.heap.size by omega)).trans ca10
  replace ca11 := (hbn.cell (p := (⟨w.heap.size + 1, 1, none⟩ : Addr)) (show w.heap.size + 1 < w2'.heap.size by omega)).trans ca11
  replace ca12 := (hbn.cell (p := (⟨w.heap.size + 1, 2, none⟩ : Addr)) (show w.heap.size + 1 < w2'.heap.size by omega)).trans ca12
  clear hbn
  have hleft0 : ¬ 1048576 - (es0.length : Int) < 0 := by omega
  go_wp2_with fail
  have hdr := below_dn (Below.refl w3'.heap.size w3') 1
  have hcr0 := toGraph_any w3'.drew r0 s0 _ es0.length (flatE es0) ((((hr0.out.below hb3).below (hdr.mono hb3.size))).mono hb3.size) (by omega)
  go_region_held3 (fun z => z.cell? ⟨w.heap.size, 0, none⟩ = some (.int .i64 r0) ∧ z.cell? ⟨w.heap.size, 1, none⟩ = some (.int .i64 s0) ∧ z.cell? ⟨w.heap.size, 2, none⟩ = some (.slice ad0 es0.length cap0) ∧ z.cell? ⟨w.heap.size + 1, 0, none⟩ = some (.int .i64 f1) ∧ z.cell? ⟨w.heap.size + 1, 1, none⟩ = some (.int .i64 l1) ∧ z.cell? ⟨w.heap.size + 1, 2, none⟩ = some (.int .i64 t1)) (first | ((repeat' apply And.intro) <;> assumption) | go_keep) (first | (go_at_call 12; (with_reducible refine hcr0.mono ?_); rintro e w4' ⟨u0a, u0c, rfl, hrow, hbn⟩; replace hbn := hdr.trans hbn; have hb4 := hb3.trans (hbn.mono hb3.size); have hs4 := hbn.size; replace ca00 := (hbn.cell (p := (⟨w.heap.size, 0, none⟩ : Addr)) (show w.heap.size < w3'.heap.size by omega)).trans ca00; replace ca01 := (hbn.cell (p := (⟨w.heap.size, 1, none⟩ : Addr)) (show w.heap.size < w3'.heap.size by omega)).trans ca01; replace ca02 := (hbn.cell (p := (⟨w.heap.size, 2, none⟩ : Addr)) (show w.heap.size < w3'.heap.size by omega)).trans ca02; replace ca10 := (hbn.cell (p := (⟨w.heap.size + 1, 0, none⟩ : Addr)) (show w.heap.size + 1 < w3'.heap.size by omega)).trans ca10; replace ca11 := (hbn.cell (p := (⟨w.heap.size + 1, 1, none⟩ : Addr)) (show w.heap.size + 1 < w3'.heap.size by omega)).trans ca11; replace ca12 := (hbn.cell (p := (⟨w.heap.size + 1, 2, none⟩ : Addr)) (show w.heap.size + 1 < w3'.heap.size by omega)).trans ca12; have hu0 := hidI hrow; clear hrow; clear hbn hcr0; have hcr1 := toEdge_any w4' f1 l1 t1) | (go_at_call 27; (with_reducible refine hcr1.mono ?_); rintro e w5' ⟨rfl, hbn⟩; have hb5 := hb4.trans (hbn.mono hb4.size); have hs5 := hbn.size; replace hu0 := hidI (hu0.out.below hbn (by omega)); replace ca00 := (hbn.cell (p := (⟨w.heap.size, 0, none⟩ : Addr)) (show w.heap.size < w4'.heap.size by omega)).trans ca00; replace ca01 := (hbn.cell (p := (⟨w.heap.size, 1, none⟩ : Addr)) (show w.heap.size < w4'.heap.size by omega)).trans ca01; replace ca02 := (hbn.cell (p := (⟨w.heap.size, 2, none⟩ : Addr)) (show w.heap.size < w4'.heap.size by omega)).trans ca02; replace ca10 := (hbn.cell (p := (⟨w.heap.size + 1, 0, none⟩ : Addr)) (show w.heap.size + 1 < w4'.heap.size by omega)).trans ca10; replace ca11 := (hbn.cell (p := (⟨w.heap.size + 1, 1, none⟩ : Addr)) (show w.heap.size + 1 < w4'.heap.size by omega)).trans ca11; replace ca12 := (hbn.cell (p := (⟨w.heap.size + 1, 2, none⟩ : Addr)) (show w.heap.size + 1 < w4'.heap.size by omega)).trans ca12; clear hbn hcr1; have hcr2 := specLoopOf w5' r0 s0 _ es0 f1 l1 t1 (hu0.out.read.mono (by omega)) bs0 (by omega)) | (go_at_call 26; (with_reducible refine hcr2.mono ?_); intro e w6' hpost; rw [← hF0.out] at hpost; obtain ⟨m0, rfl, hrow0, hbn⟩ := hpost; have hb6 := hb5.trans (hbn.mono hb5.size); have hs6 := hbn.size; replace hu0 := hidI (hu0.out.below hbn (by omega)); replace ca00 := (hbn.cell (p := (⟨w.heap.size, 0, none⟩ : Addr)) (show w.heap.size < w5'.heap.size by omega)).trans ca00; replace ca01 := (hbn.cell (p := (⟨w.heap.size, 1, none⟩ : Addr)) (show w.heap.size < w5'.heap.size by omega)).trans ca01; replace ca02 := (hbn.cell (p := (⟨w.heap.size, 2, none⟩ : Addr)) (show w.heap.size < w5'.heap.size by omega)).trans ca02; replace ca10 := (hbn.cell (p := (⟨w.heap.size + 1, 0, none⟩ : Addr)) (show w.heap.size + 1 < w5'.heap.size by omega)).trans ca10; replace ca11 := (hbn.cell (p := (⟨w.heap.size + 1, 1, none⟩ : Addr)) (show w.heap.size + 1 < w5'.heap.size by omega)).trans ca11; replace ca12 := (hbn.cell (p := (⟨w.heap.size + 1, 2, none⟩ : Addr)) (show w.heap.size + 1 < w5'.heap.size by omega)).trans ca12; have hm0 := hidI hrow0; clear hrow0; clear hbn hcr2))
  clear hdr
  clear hu0
  go_wp2_with fail
  refine (toGraph_any w6' r0 s0 _ es0.length (flatE es0) ((hr0.out.below hb6).mono hb6.size) (by omega)).mono ?_
  rintro e w7' ⟨x0a, x0c, rfl, hrow, hbn⟩
  have hb7 := hb6.trans (hbn.mono hb6.size)
  have hs7 := hbn.size
  replace hm0 := hidI (hm0.out.below hbn (by omega))
  replace ca00 := (hbn.cell (p := (⟨w.heap.size, 0, none⟩ : Addr)) (show w.heap.size < w6'.heap.size by omega)).trans ca00
  replace ca01 := (hbn.cell (p := (⟨w.heap.size, 1, none⟩ : Addr)) (show w.heap.size < w6'.heap.size by omega)).trans ca01
  replace ca02 := (hbn.cell (p := (⟨w.heap.size, 2, none⟩ : Addr)) (show w.heap.size < w6'.heap.size by omega)).trans ca02
  replace ca10 := (hbn.cell (p := (⟨w.heap.size + 1, 0, none⟩ : Addr)) (show w.heap.size + 1 < w6'.heap.size by omega)).trans ca10
  replace ca11 := (hbn.cell (p := (⟨w.heap.size + 1, 1, none⟩ : Addr)) (show w.heap.size + 1 < w6'.heap.size by omega)).trans ca11
  replace ca12 := (hbn.cell (p := (⟨w.heap.size + 1, 2, none⟩ : Addr)) (show w.heap.size + 1 < w6'.heap.size by omega)).trans ca12
  clear hbn
  have hx0 := hidI hrow
  clear hrow
  have da00_8 : ∀ o : Obj, (w7'.alloc o).cell? ⟨w.heap.size, 0, none⟩ = some (.int .i64 r0) := fun o => (((Below.refl w7'.heap.size w7').alloc (Nat.le_refl _) o).cell (p := (⟨w.heap.size, 0, none⟩ : Addr)) (show w.heap.size < w7'.heap.size by omega)).trans ca00
  have da01_8 : ∀ o : Obj, (w7'.alloc o).cell? ⟨w.heap.size, 1, none⟩ = some (.int .i64 s0) := fun o => (((Below.refl w7'.heap.size w7').alloc (Nat.le_refl _) o).cell (p := (⟨w.heap.size, 1, none⟩ : Addr)) (show w.heap.size < w7'.heap.size by omega)).trans ca01
  have da02_8 : ∀ o : Obj, (w7'.alloc o).cell? ⟨w.heap.size, 2, none⟩ = some (.slice ad0 es0.length cap0) := fun o => (((Below.refl w7'.heap.size w7').alloc (Nat.le_refl _) o).cell (p := (⟨w.heap.size, 2, none⟩ : Addr)) (show w.heap.size < w7'.heap.size by omega)).trans ca02
  have da10_8 : ∀ o : Obj, (w7'.alloc o).cell? ⟨w.heap.size + 1, 0, none⟩ = some (.int .i64 f1) := fun o => (((Below.refl w7'.heap.size w7').alloc (Nat.le_refl _) o).cell (p := (⟨w.heap.size + 1, 0, none⟩ : Addr)) (show w.heap.size + 1 < w7'.heap.size by omega)).trans ca10
  have da11_8 : ∀ o : Obj, (w7'.alloc o).cell? ⟨w.heap.size + 1, 1, none⟩ = some (.int .i64 l1) := fun o => (((Below.refl w7'.heap.size w7').alloc (Nat.le_refl _) o).cell (p := (⟨w.heap.size + 1, 1, none⟩ : Addr)) (show w.heap.size + 1 < w7'.heap.size by omega)).trans ca11
  have da12_8 : ∀ o : Obj, (w7'.alloc o).cell? ⟨w.heap.size + 1, 2, none⟩ = some (.int .i64 t1) := fun o => (((Below.refl w7'.heap.size w7').alloc (Nat.le_refl _) o).cell (p := (⟨w.heap.size + 1, 2, none⟩ : Addr)) (show w.heap.size + 1 < w7'.heap.size by omega)).trans ca12
  obtain ⟨w8', hw8⟩ : ∃ z, z = w7'.alloc (.cells #[.int .i64 r0, .int .i64 s0, .slice x0a es0.length x0c] 29) := ⟨_, rfl⟩
  have hbn : Below w7'.heap.size w7' w8' := by rw [hw8]; exact (Below.refl _ _).alloc (Nat.le_refl _) _
  have hlt8 : w7'.heap.size < w8'.heap.size := by rw [hw8]; simp
  have hnb : w8'.heap[w7'.heap.size]? = some (.cells #[.int .i64 r0, .int .i64 s0, .slice x0a es0.length x0c] 29 (0, 0)) := by rw [hw8]; exact heap_alloc_new _ _
  replace hw8 := hidI hw8
  have hb8 := hb7.trans (hbn.mono hb7.size)
  have hs8 := hbn.size
  replace hm0 := hidI (hm0.out.below hbn (by omega))
  replace hx0 := hidI (hx0.out.below hbn (by omega))
  replace ca00 := (hbn.cell (p := (⟨w.heap.size, 0, none⟩ : Addr)) (show w.heap.size < w7'.heap.size by omega)).trans ca00
  replace ca01 := (hbn.cell (p := (⟨w.heap.size, 1, none⟩ : Addr)) (show w.heap.size < w7'.heap.size by omega)).trans ca01
  replace ca02 := (hbn.cell (p := (⟨w.heap.size, 2, none⟩ : Addr)) (show w.heap.size < w7'.heap.size by omega)).trans ca02
  replace ca10 := (hbn.cell (p := (⟨w.heap.size + 1, 0, none⟩ : Addr)) (show w.heap.size + 1 < w7'.heap.size by omega)).trans ca10
  replace ca11 := (hbn.cell (p := (⟨w.heap.size + 1, 1, none⟩ : Addr)) (show w.heap.size + 1 < w7'.heap.size by omega)).trans ca11
  replace ca12 := (hbn.cell (p := (⟨w.heap.size + 1, 2, none⟩ : Addr)) (show w.heap.size + 1 < w7'.heap.size by omega)).trans ca12
  clear hbn
  have cx00 : w8'.cell? ⟨w7'.heap.size, 0, none⟩ = some (.int .i64 r0) := by simpa using cell_of_heap hnb 0
  have cx01 : w8'.cell? ⟨w7'.heap.size, 1, none⟩ = some (.int .i64 s0) := by simpa using cell_of_heap hnb 1
  have cx02 : w8'.cell? ⟨w7'.heap.size, 2, none⟩ = some (.slice x0a es0.length x0c) := by simpa using cell_of_heap hnb 2
  clear hnb
  go_wp2_with fail
  try rw [← hw8.out]
  clear da00_8 da01_8 da02_8 da10_8 da11_8 da12_8
  have hdr := below_dn (Below.refl w8'.heap.size w8') 1
  have hcr0 := toEdge_any w8'.drew f1 l1 t1
  go_region_held3 (fun z => z.cell? ⟨w7'.heap.size, 0, none⟩ = some (.int .i64 r0) ∧ z.cell? ⟨w7'.heap.size, 1, none⟩ = some (.int .i64 s0) ∧ z.cell? ⟨w7'.heap.size, 2, none⟩ = some (.slice x0a es0.length x0c) ∧ z.cell? ⟨w.heap.size + 1, 0, none⟩ = some (.int .i64 f1) ∧ z.cell? ⟨w.heap.size + 1, 1, none⟩ = some (.int .i64 l1) ∧ z.cell? ⟨w.heap.size + 1, 2, none⟩ = some (.int .i64 t1)) (first | ((repeat' apply And.intro) <;> assumption) | go_keep) (first | (go_at_call 27; (with_reducible refine hcr0.mono ?_); rintro e w9' ⟨rfl, hbn⟩; replace hbn := hdr.trans hbn; have hb9 := hb8.trans (hbn.mono hb8.size); have hs9 := hbn.size; replace hm0 := hidI (hm0.out.below hbn (by omega)); replace hx0 := hidI (hx0.out.below hbn (by omega)); replace ca00 := (hbn.cell (p := (⟨w.heap.size, 0, none⟩ : Addr)) (show w.heap.size < w8'.heap.size by omega)).trans ca00; replace ca01 := (hbn.cell (p := (⟨w.heap.size, 1, none⟩ : Addr)) (show w.heap.size < w8'.heap.size by omega)).trans ca01; replace ca02 := (hbn.cell (p := (⟨w.heap.size, 2, none⟩ : Addr)) (show w.heap.size < w8'.heap.size by omega)).trans ca02; replace ca10 := (hbn.cell (p := (⟨w.heap.size + 1, 0, none⟩ : Addr)) (show w.heap.size + 1 < w8'.heap.size by omega)).trans ca10; replace ca11 := (hbn.cell (p := (⟨w.heap.size + 1, 1, none⟩ : Addr)) (show w.heap.size + 1 < w8'.heap.size by omega)).trans ca11; replace ca12 := (hbn.cell (p := (⟨w.heap.size + 1, 2, none⟩ : Addr)) (show w.heap.size + 1 < w8'.heap.size by omega)).trans ca12; replace cx00 := (hbn.cell (p := (⟨w7'.heap.size, 0, none⟩ : Addr)) (show w7'.heap.size < w8'.heap.size by omega)).trans cx00; replace cx01 := (hbn.cell (p := (⟨w7'.heap.size, 1, none⟩ : Addr)) (show w7'.heap.size < w8'.heap.size by omega)).trans cx01; replace cx02 := (hbn.cell (p := (⟨w7'.heap.size, 2, none⟩ : Addr)) (show w7'.heap.size < w8'.heap.size by omega)).trans cx02; clear hbn hcr0; have hcr1 := progLoopOf w9' r0 s0 _ es0 f1 l1 t1 (hx0.out.read.mono (by omega)) (by omega) bl1) | (go_at_call 28; (with_reducible refine hcr1.mono ?_); intro e w10' hpost; rw [← hF0.out] at hpost; obtain ⟨g0, rfl, hrow0, hbn⟩ := hpost; have hb10 := hb9.trans (hbn.mono hb9.size); have hs10 := hbn.size; replace hm0 := hidI (hm0.out.below hbn (by omega)); replace hx0 := hidI (hx0.out.below hbn (by omega)); replace ca00 := (hbn.cell (p := (⟨w.heap.size, 0, none⟩ : Addr)) (show w.heap.size < w9'.heap.size by omega)).trans ca00; replace ca01 := (hbn.cell (p := (⟨w.heap.size, 1, none⟩ : Addr)) (show w.heap.size < w9'.heap.size by omega)).trans ca01; replace ca02 := (hbn.cell (p := (⟨w.heap.size, 2, none⟩ : Addr)) (show w.heap.size < w9'.heap.size by omega)).trans ca02; replace ca10 := (hbn.cell (p := (⟨w.heap.size + 1, 0, none⟩ : Addr)) (show w.heap.size + 1 < w9'.heap.size by omega)).trans ca10; replace ca11 := (hbn.cell (p := (⟨w.heap.size + 1, 1, none⟩ : Addr)) (show w.heap.size + 1 < w9'.heap.size by omega)).trans ca11; replace ca12 := (hbn.cell (p := (⟨w.heap.size + 1, 2, none⟩ : Addr)) (show w.heap.size + 1 < w9'.heap.size by omega)).trans ca12; replace cx00 := (hbn.cell (p := (⟨w7'.heap.size, 0, none⟩ : Addr)) (show w7'.heap.size < w9'.heap.size by omega)).trans cx00; replace cx01 := (hbn.cell (p := (⟨w7'.heap.size, 1, none⟩ : Addr)) (show w7'.heap.size < w9'.heap.size by omega)).trans cx01; replace cx02 := (hbn.cell (p := (⟨w7'.heap.size, 2, none⟩ : Addr)) (show w7'.heap.size < w9'.heap.size by omega)).trans cx02; have hg0 := hidI hrow0; clear hrow0; clear hbn hcr1))
  clear hdr
  go_wp2_with fail
  refine (eqIntS_law w10' g0 m0 F0 (hg0.out.read.mono (by omega)) (hm0.out.read.mono (by omega))).mono ?_
  rintro e w11' ⟨rfl, hbn, hzz⟩
  clear hzz
  have hb11 := hb10.trans (hbn.mono hb10.size)
  have hs11 := hbn.size
  replace hm0 := hidI (hm0.out.below hbn (by omega))
  replace hx0 := hidI (hx0.out.below hbn (by omega))
  replace hg0 := hidI (hg0.out.below hbn (by omega))
  replace ca00 := (hbn.cell (p := (⟨w.heap.size, 0, none⟩ : Addr)) (show w.heap.size < w10'.heap.size by omega)).trans ca00
  replace ca01 := (hbn.cell (p := (⟨w.heap.size, 1, none⟩ : Addr)) (show w.heap.size < w10'.heap.size by omega)).trans ca01
  replace ca02 := (hbn.cell (p := (⟨w.heap.size, 2, none⟩ : Addr)) (show w.heap.size < w10'.heap.size by omega)).trans ca02
  replace ca10 := (hbn.cell (p := (⟨w.heap.size + 1, 0, none⟩ : Addr)) (show w.heap.size + 1 < w10'.heap.size by omega)).trans ca10
  replace ca11 := (hbn.cell (p := (⟨w.heap.size + 1, 1, none⟩ : Addr)) (show w.heap.size + 1 < w10'.heap.size by omega)).trans ca11
  replace ca12 := (hbn.cell (p := (⟨w.heap.size + 1, 2, none⟩ : Addr)) (show w.heap.size + 1 < w10'.heap.size by omega)).trans ca12
  replace cx00 := (hbn.cell (p := (⟨w7'.heap.size, 0, none⟩ : Addr)) (show w7'.heap.size < w10'.heap.size by omega)).trans cx00
  replace cx01 := (hbn.cell (p := (⟨w7'.heap.size, 1, none⟩ : Addr)) (show w7'.heap.size < w10'.heap.size by omega)).trans cx01
  replace cx02 := (hbn.cell (p := (⟨w7'.heap.size, 2, none⟩ : Addr)) (show w7'.heap.size < w10'.heap.size by omega)).trans cx02
  clear hbn
  go_wp2_with fail
  have hdr := below_dn (Below.refl w11'.heap.size w11') 1
  have hcg := toGraph_any w11'.drew r0 s0 _ es0.length (flatE es0) (((hr0.out.below hb11).below (hdr.mono hb11.size)).mono hb11.size) (by omega)
  go_region_held3 (fun z => z.cell? ⟨w7'.heap.size, 0, none⟩ = some (.int .i64 r0) ∧ z.cell? ⟨w7'.heap.size, 1, none⟩ = some (.int .i64 s0) ∧ z.cell? ⟨w7'.heap.size, 2, none⟩ = some (.slice x0a es0.length x0c) ∧ z.cell? ⟨w.heap.size, 0, none⟩ = some (.int .i64 r0) ∧ z.cell? ⟨w.heap.size, 1, none⟩ = some (.int .i64 s0) ∧ z.cell? ⟨w.heap.size, 2, none⟩ = some (.slice ad0 es0.length cap0)) (first | ((repeat' apply And.intro) <;> assumption) | go_keep) (first | (go_at_call 12; (with_reducible refine hcg.mono ?_); rintro e w12' ⟨ta, tc, rfl, hrow, hbn⟩; replace hbn := hdr.trans hbn; have hb12 := hb11.trans (hbn.mono hb11.size); have hs12 := hbn.size; replace hm0 := hidI (hm0.out.below hbn (by omega)); replace hx0 := hidI (hx0.out.below hbn (by omega)); replace hg0 := hidI (hg0.out.below hbn (by omega)); replace ca00 := (hbn.cell (p := (⟨w.heap.size, 0, none⟩ : Addr)) (show w.heap.size < w11'.heap.size by omega)).trans ca00; replace ca01 := (hbn.cell (p := (⟨w.heap.size, 1, none⟩ : Addr)) (show w.heap.size < w11'.heap.size by omega)).trans ca01; replace ca02 := (hbn.cell (p := (⟨w.heap.size, 2, none⟩ : Addr)) (show w.heap.size < w11'.heap.size by omega)).trans ca02; replace ca10 := (hbn.cell (p := (⟨w.heap.size + 1, 0, none⟩ : Addr)) (show w.heap.size + 1 < w11'.heap.size by omega)).trans ca10; replace ca11 := (hbn.cell (p := (⟨w.heap.size + 1, 1, none⟩ : Addr)) (show w.heap.size + 1 < w11'.heap.size by omega)).trans ca11; replace ca12 := (hbn.cell (p := (⟨w.heap.size + 1, 2, none⟩ : Addr)) (show w.heap.size + 1 < w11'.heap.size by omega)).trans ca12; replace cx00 := (hbn.cell (p := (⟨w7'.heap.size, 0, none⟩ : Addr)) (show w7'.heap.size < w11'.heap.size by omega)).trans cx00; replace cx01 := (hbn.cell (p := (⟨w7'.heap.size, 1, none⟩ : Addr)) (show w7'.heap.size < w11'.heap.size by omega)).trans cx01; replace cx02 := (hbn.cell (p := (⟨w7'.heap.size, 2, none⟩ : Addr)) (show w7'.heap.size < w11'.heap.size by omega)).trans cx02; have hce := eqGraph_same w12' r0 s0 _ _ es0.length (flatE es0) (hx0.out.read.mono (by omega)) (hrow.read.mono (by omega)); clear hbn hcg) | (go_at_call 15; (with_reducible refine hce.mono ?_); rintro e w13' ⟨rfl, hbn⟩; have hb13 := hb12.trans (hbn.mono hb12.size); have hs13 := hbn.size; replace hm0 := hidI (hm0.out.below hbn (by omega)); replace hx0 := hidI (hx0.out.below hbn (by omega)); replace hg0 := hidI (hg0.out.below hbn (by omega)); replace ca00 := (hbn.cell (p := (⟨w.heap.size, 0, none⟩ : Addr)) (show w.heap.size < w12'.heap.size by omega)).trans ca00; replace ca01 := (hbn.cell (p := (⟨w.heap.size, 1, none⟩ : Addr)) (show w.heap.size < w12'.heap.size by omega)).trans ca01; replace ca02 := (hbn.cell (p := (⟨w.heap.size, 2, none⟩ : Addr)) (show w.heap.size < w12'.heap.size by omega)).trans ca02; replace ca10 := (hbn.cell (p := (⟨w.heap.size + 1, 0, none⟩ : Addr)) (show w.heap.size + 1 < w12'.heap.size by omega)).trans ca10; replace ca11 := (hbn.cell (p := (⟨w.heap.size + 1, 1, none⟩ : Addr)) (show w.heap.size + 1 < w12'.heap.size by omega)).trans ca11; replace ca12 := (hbn.cell (p := (⟨w.heap.size + 1, 2, none⟩ : Addr)) (show w.heap.size + 1 < w12'.heap.size by omega)).trans ca12; replace cx00 := (hbn.cell (p := (⟨w7'.heap.size, 0, none⟩ : Addr)) (show w7'.heap.size < w12'.heap.size by omega)).trans cx00; replace cx01 := (hbn.cell (p := (⟨w7'.heap.size, 1, none⟩ : Addr)) (show w7'.heap.size < w12'.heap.size by omega)).trans cx01; replace cx02 := (hbn.cell (p := (⟨w7'.heap.size, 2, none⟩ : Addr)) (show w7'.heap.size < w12'.heap.size by omega)).trans cx02; clear hbn hce hrow))
  go_wp2_with fail
  refine (markGraph_any w13' (w6'.heap.size) (w7'.heap.size) r0 s0 _ es0.length (flatE es0) 1 hx0.out (by omega) (by omega) (by omega) (by omega)).mono ?_
  rintro e w14' ⟨rfl, hm, wm, hbn, ho⟩
  have hbm14 := hb13.trans (hbn.mono hb13.size)
  have hsm14 := hbn.size
  replace hm0 := hidI ((hm0.out.below hbn (by omega)).only ho (by omega))
  replace hg0 := hidI ((hg0.out.below hbn (by omega)).only ho (by omega))
  replace ca00 := (ho.cell (p := (⟨w.heap.size, 0, none⟩ : Addr)) (show w.heap.size < w6'.heap.size ∨ w7'.heap.size ≤ w.heap.size by omega)).trans ((hbn.cell (p := (⟨w.heap.size, 0, none⟩ : Addr)) (show w.heap.size < w13'.heap.size by omega)).trans ca00)
  replace ca01 := (ho.cell (p := (⟨w.heap.size, 1, none⟩ : Addr)) (show w.heap.size < w6'.heap.size ∨ w7'.heap.size ≤ w.heap.size by omega)).trans ((hbn.cell (p := (⟨w.heap.size, 1, none⟩ : Addr)) (show w.heap.size < w13'.heap.size by omega)).trans ca01)
  replace ca02 := (ho.cell (p := (⟨w.heap.size, 2, none⟩ : Addr)) (show w.heap.size < w6'.heap.size ∨ w7'.heap.size ≤ w.heap.size by omega)).trans ((hbn.cell (p := (⟨w.heap.size, 2, none⟩ : Addr)) (show w.heap.size < w13'.heap.size by omega)).trans ca02)
  replace ca10 := (ho.cell (p := (⟨w.heap.size + 1, 0, none⟩ : Addr)) (show w.heap.size + 1 < w6'.heap.size ∨ w7'.heap.size ≤ w.heap.size + 1 by omega)).trans ((hbn.cell (p := (⟨w.heap.size + 1, 0, none⟩ : Addr)) (show w.heap.size + 1 < w13'.heap.size by omega)).trans ca10)
  replace ca11 := (ho.cell (p := (⟨w.heap.size + 1, 1, none⟩ : Addr)) (show w.heap.size + 1 < w6'.heap.size ∨ w7'.heap.size ≤ w.heap.size + 1 by omega)).trans ((hbn.cell (p := (⟨w.heap.size + 1, 1, none⟩ : Addr)) (show w.heap.size + 1 < w13'.heap.size by omega)).trans ca11)
  replace ca12 := (ho.cell (p := (⟨w.heap.size + 1, 2, none⟩ : Addr)) (show w.heap.size + 1 < w6'.heap.size ∨ w7'.heap.size ≤ w.heap.size + 1 by omega)).trans ((hbn.cell (p := (⟨w.heap.size + 1, 2, none⟩ : Addr)) (show w.heap.size + 1 < w13'.heap.size by omega)).trans ca12)
  replace cx00 := (ho.cell (p := (⟨w7'.heap.size, 0, none⟩ : Addr)) (show w7'.heap.size < w6'.heap.size ∨ w7'.heap.size ≤ w7'.heap.size by omega)).trans ((hbn.cell (p := (⟨w7'.heap.size, 0, none⟩ : Addr)) (show w7'.heap.size < w13'.heap.size by omega)).trans cx00)
  replace cx01 := (ho.cell (p := (⟨w7'.heap.size, 1, none⟩ : Addr)) (show w7'.heap.size < w6'.heap.size ∨ w7'.heap.size ≤ w7'.heap.size by omega)).trans ((hbn.cell (p := (⟨w7'.heap.size, 1, none⟩ : Addr)) (show w7'.heap.size < w13'.heap.size by omega)).trans cx01)
  replace cx02 := (ho.cell (p := (⟨w7'.heap.size, 2, none⟩ : Addr)) (show w7'.heap.size < w6'.heap.size ∨ w7'.heap.size ≤ w7'.heap.size by omega)).trans ((hbn.cell (p := (⟨w7'.heap.size, 2, none⟩ : Addr)) (show w7'.heap.size < w13'.heap.size by omega)).trans cx02)
  have hb14 := hbm14.trans (ho.below (by omega))
  have hs14 : w13'.heap.size ≤ w14'.heap.size := by have := ho.size; omega
  clear hbn ho hbm14
  clear hm hx0
  clear cx00 cx01 cx02
  have hkk : decide ((1 + 3 * (es0.length : Int)) < 0) = false := by rw [decide_eq_false_iff_not]; omega
  have hkk2 : ¬ (1 + 3 * (es0.length : Int)) < 0 := by omega
  go_wp2_with fail
  refine (eqIntS_law w14' g0 m0 F0 (hg0.out.read.mono (by omega)) (hm0.out.read.mono (by omega))).mono ?_
  rintro e w15' ⟨rfl, hbn, hzz⟩
  clear hzz
  have hb15 := hb14.trans (hbn.mono hb14.size)
  have hs15 := hbn.size
  replace hm0 := hidI (hm0.out.below hbn (by omega))
  replace hg0 := hidI (hg0.out.below hbn (by omega))
  replace ca00 := (hbn.cell (p := (⟨w.heap.size, 0, none⟩ : Addr)) (show w.heap.size < w14'.heap.size by omega)).trans ca00
  replace ca01 := (hbn.cell (p := (⟨w.heap.size, 1, none⟩ : Addr)) (show w.heap.size < w14'.heap.size by omega)).trans ca01
  replace ca02 := (hbn.cell (p := (⟨w.heap.size, 2, none⟩ : Addr)) (show w.heap.size < w14'.heap.size by omega)).trans ca02
  replace ca10 := (hbn.cell (p := (⟨w.heap.size + 1, 0, none⟩ : Addr)) (show w.heap.size + 1 < w14'.heap.size by omega)).trans ca10
  replace ca11 := (hbn.cell (p := (⟨w.heap.size + 1, 1, none⟩ : Addr)) (show w.heap.size + 1 < w14'.heap.size by omega)).trans ca11
  replace ca12 := (hbn.cell (p := (⟨w.heap.size + 1, 2, none⟩ : Addr)) (show w.heap.size + 1 < w14'.heap.size by omega)).trans ca12
  clear hbn
  go_wp2_with fail
  refine (markIntS_any w15' (w9'.heap.size) (w10'.heap.size) g0 F0 1 hg0.out (by omega) (by omega) (by omega)).mono ?_
  rintro e w16' ⟨rfl, hm, ho⟩
  have hb16 := hb15.trans (ho.below (by omega))
  have hs16 : w15'.heap.size ≤ w16'.heap.size := by have := ho.size; omega
  replace hm0 := hidI (hm0.out.only ho (by omega))
  replace ca00 := (ho.cell (p := (⟨w.heap.size, 0, none⟩ : Addr)) (show w.heap.size < w9'.heap.size ∨ w10'.heap.size ≤ w.heap.size by omega)).trans ca00
  replace ca01 := (ho.cell (p := (⟨w.heap.size, 1, none⟩ : Addr)) (show w.heap.size < w9'.heap.size ∨ w10'.heap.size ≤ w.heap.size by omega)).trans ca01
  replace ca02 := (ho.cell (p := (⟨w.heap.size, 2, none⟩ : Addr)) (show w.heap.size < w9'.heap.size ∨ w10'.heap.size ≤ w.heap.size by omega)).trans ca02
  replace ca10 := (ho.cell (p := (⟨w.heap.size + 1, 0, none⟩ : Addr)) (show w.heap.size + 1 < w9'.heap.size ∨ w10'.heap.size ≤ w.heap.size + 1 by omega)).trans ca10
  replace ca11 := (ho.cell (p := (⟨w.heap.size + 1, 1, none⟩ : Addr)) (show w.heap.size + 1 < w9'.heap.size ∨ w10'.heap.size ≤ w.heap.size + 1 by omega)).trans ca11
  replace ca12 := (ho.cell (p := (⟨w.heap.size + 1, 2, none⟩ : Addr)) (show w.heap.size + 1 < w9'.heap.size ∨ w10'.heap.size ≤ w.heap.size + 1 by omega)).trans ca12
  clear ho
  have hk0 := hidI hm
  clear hm hg0
  have hk0f : decide ((1 + (F0.length : Int)) < 0) = false := by rw [decide_eq_false_iff_not]; omega
  have hk0g : ¬ (1 + (F0.length : Int)) < 0 := by omega
  have hkq : ((1 + (F0.length : Int)) != (1 + (F0.length : Int))) = false := by simp
  go_wp2_with fail
  refine (heldIntS_any w16' w16'.heap.size g0 F0.length 1 (hk0.out.read.mono (by omega)) (by omega) (by omega) (by omega)).mono ?_
  rintro e wz ⟨rfl, rfl⟩
  go_wp2_with fail
  have hdr := below_dn (Below.refl w16'.heap.size w16') 1
  have hcr0 := toGraph_any w16'.drew r0 s0 _ es0.length (flatE es0) ((((hr0.out.below hb16).below (hdr.mono hb16.size))).mono hb16.size) (by omega)
  go_region_held3 (fun z => z.cell? ⟨w.heap.size, 0, none⟩ = some (.int .i64 r0) ∧ z.cell? ⟨w.heap.size, 1, none⟩ = some (.int .i64 s0) ∧ z.cell? ⟨w.heap.size, 2, none⟩ = some (.slice ad0 es0.length cap0) ∧ z.cell? ⟨w.heap.size + 1, 0, none⟩ = some (.int .i64 f1) ∧ z.cell? ⟨w.heap.size + 1, 1, none⟩ = some (.int .i64 l1) ∧ z.cell? ⟨w.heap.size + 1, 2, none⟩ = some (.int .i64 t1)) (first | ((repeat' apply And.intro) <;> assumption) | go_keep) (first | (go_at_call 12; (with_reducible refine hcr0.mono ?_); rintro e w17' ⟨y0a, y0c, rfl, hrow, hbn⟩; replace hbn := hdr.trans hbn; have hb17 := hb16.trans (hbn.mono hb16.size); have hs17 := hbn.size; replace hm0 := hidI (hm0.out.below hbn (by omega)); replace hk0 := hidI (hk0.out.below hbn (by omega)); replace ca00 := (hbn.cell (p := (⟨w.heap.size, 0, none⟩ : Addr)) (show w.heap.size < w16'.heap.size by omega)).trans ca00; replace ca01 := (hbn.cell (p := (⟨w.heap.size, 1, none⟩ : Addr)) (show w.heap.size < w16'.heap.size by omega)).trans ca01; replace ca02 := (hbn.cell (p := (⟨w.heap.size, 2, none⟩ : Addr)) (show w.heap.size < w16'.heap.size by omega)).trans ca02; replace ca10 := (hbn.cell (p := (⟨w.heap.size + 1, 0, none⟩ : Addr)) (show w.heap.size + 1 < w16'.heap.size by omega)).trans ca10; replace ca11 := (hbn.cell (p := (⟨w.heap.size + 1, 1, none⟩ : Addr)) (show w.heap.size + 1 < w16'.heap.size by omega)).trans ca11; replace ca12 := (hbn.cell (p := (⟨w.heap.size + 1, 2, none⟩ : Addr)) (show w.heap.size + 1 < w16'.heap.size by omega)).trans ca12; have hy0 := hidI hrow; clear hrow; clear hbn hcr0; have hcr1 := toEdge_any w17' f1 l1 t1) | (go_at_call 27; (with_reducible refine hcr1.mono ?_); rintro e w18' ⟨rfl, hbn⟩; have hb18 := hb17.trans (hbn.mono hb17.size); have hs18 := hbn.size; replace hm0 := hidI (hm0.out.below hbn (by omega)); replace hk0 := hidI (hk0.out.below hbn (by omega)); replace hy0 := hidI (hy0.out.below hbn (by omega)); replace ca00 := (hbn.cell (p := (⟨w.heap.size, 0, none⟩ : Addr)) (show w.heap.size < w17'.heap.size by omega)).trans ca00; replace ca01 := (hbn.cell (p := (⟨w.heap.size, 1, none⟩ : Addr)) (show w.heap.size < w17'.heap.size by omega)).trans ca01; replace ca02 := (hbn.cell (p := (⟨w.heap.size, 2, none⟩ : Addr)) (show w.heap.size < w17'.heap.size by omega)).trans ca02; replace ca10 := (hbn.cell (p := (⟨w.heap.size + 1, 0, none⟩ : Addr)) (show w.heap.size + 1 < w17'.heap.size by omega)).trans ca10; replace ca11 := (hbn.cell (p := (⟨w.heap.size + 1, 1, none⟩ : Addr)) (show w.heap.size + 1 < w17'.heap.size by omega)).trans ca11; replace ca12 := (hbn.cell (p := (⟨w.heap.size + 1, 2, none⟩ : Addr)) (show w.heap.size + 1 < w17'.heap.size by omega)).trans ca12; clear hbn hcr1; have hcr2 := progLoopOf w18' r0 s0 _ es0 f1 l1 t1 (hy0.out.read.mono (by omega)) (by omega) bl1) | (go_at_call 28; (with_reducible refine hcr2.mono ?_); intro e w19' hpost; rw [← hF0.out] at hpost; obtain ⟨q0, rfl, hrow0, hbn⟩ := hpost; have hb19 := hb18.trans (hbn.mono hb18.size); have hs19 := hbn.size; replace hm0 := hidI (hm0.out.below hbn (by omega)); replace hk0 := hidI (hk0.out.below hbn (by omega)); replace hy0 := hidI (hy0.out.below hbn (by omega)); replace ca00 := (hbn.cell (p := (⟨w.heap.size, 0, none⟩ : Addr)) (show w.heap.size < w18'.heap.size by omega)).trans ca00; replace ca01 := (hbn.cell (p := (⟨w.heap.size, 1, none⟩ : Addr)) (show w.heap.size < w18'.heap.size by omega)).trans ca01; replace ca02 := (hbn.cell (p := (⟨w.heap.size, 2, none⟩ : Addr)) (show w.heap.size < w18'.heap.size by omega)).trans ca02; replace ca10 := (hbn.cell (p := (⟨w.heap.size + 1, 0, none⟩ : Addr)) (show w.heap.size + 1 < w18'.heap.size by omega)).trans ca10; replace ca11 := (hbn.cell (p := (⟨w.heap.size + 1, 1, none⟩ : Addr)) (show w.heap.size + 1 < w18'.heap.size by omega)).trans ca11; replace ca12 := (hbn.cell (p := (⟨w.heap.size + 1, 2, none⟩ : Addr)) (show w.heap.size + 1 < w18'.heap.size by omega)).trans ca12; have hq0 := hidI hrow0; clear hrow0; clear hbn hcr2))
  clear hdr
  clear hy0
  go_wp2_with fail
  refine (eqIntS_law w19' q0 m0 F0 (hq0.out.read.mono (by omega)) (hm0.out.read.mono (by omega))).mono ?_
  rintro e w20' ⟨rfl, hbn, hzz⟩
  clear hzz
  have hb20 := hb19.trans (hbn.mono hb19.size)
  have hs20 := hbn.size
  replace hm0 := hidI (hm0.out.below hbn (by omega))
  replace hk0 := hidI (hk0.out.below hbn (by omega))
  replace hq0 := hidI (hq0.out.below hbn (by omega))
  replace ca00 := (hbn.cell (p := (⟨w.heap.size, 0, none⟩ : Addr)) (show w.heap.size < w19'.heap.size by omega)).trans ca00
  replace ca01 := (hbn.cell (p := (⟨w.heap.size, 1, none⟩ : Addr)) (show w.heap.size < w19'.heap.size by omega)).trans ca01
  replace ca02 := (hbn.cell (p := (⟨w.heap.size, 2, none⟩ : Addr)) (show w.heap.size < w19'.heap.size by omega)).trans ca02
  replace ca10 := (hbn.cell (p := (⟨w.heap.size + 1, 0, none⟩ : Addr)) (show w.heap.size + 1 < w19'.heap.size by omega)).trans ca10
  replace ca11 := (hbn.cell (p := (⟨w.heap.size + 1, 1, none⟩ : Addr)) (show w.heap.size + 1 < w19'.heap.size by omega)).trans ca11
  replace ca12 := (hbn.cell (p := (⟨w.heap.size + 1, 2, none⟩ : Addr)) (show w.heap.size + 1 < w19'.heap.size by omega)).trans ca12
  clear hbn
  go_wp2_with fail
  refine (heldIntS_any w20' w20'.heap.size g0 F0.length 1 (hk0.out.read.mono (by omega)) (by omega) (by omega) (by omega)).mono ?_
  rintro e wz ⟨rfl, rfl⟩
  go_wp2_with fail
  go_ret
  exact ⟨rfl, hb20⟩
theorem walk (W : World) (r0 s0 : Int) (a0 : Option Addr) (len0 cap0 : Nat) (es0 : List Ed) (f1 l1 t1 : Int) (u0 : (Lit.int .i64 r0).wf = true) (y0 : (Lit.int .i64 s0).wf = true) (w0 : IsRowE W a0 len0 cap0 es0) (u1 : (Lit.int .i64 f1).wf = true) (y1 : (Lit.int .i64 l1).wf = true) (w1 : (Lit.int .i64 t1).wf = true) :
    Calls Try.prog 6 #[.agg #[.int .i64 r0, .int .i64 s0, .slice a0 len0 cap0], .agg #[.int .i64 f1, .int .i64 l1, .int .i64 t1]] W fun e w' => e = .returned (.bool true) ∧ Below W.heap.size W w' := by
  obtain ⟨e0, i0, m0⟩ := w0.len
  by_cases s0_ : 1048576 < len0
  · exact walk0_big0 W r0 s0 a0 len0 cap0 f1 l1 t1 m0 s0_
  exact walk0 W r0 s0 _ es0 (wf_i64 u0) (wf_i64 y0) (w0.read (by omega)) i0 f1 l1 t1 (wf_i64 u1) (wf_i64 y1) (wf_i64 w1) (by omega)

/-! ### The row's step -/
set_option maxRecDepth 100000 in
theorem lifted (os : Os) (started : os.Started) (H : Type) (enc : TypeId × Value → H) :
    ReturnsInHanded {} Try.checked os 6 .any (Rows.fnExactLoopOfSpec.pre6 enc Try.prog Try.f6 Rows.fnExactLoopOfRow.domain false) (Rows.fnExactLoopOfSpec.post enc Try.prog Try.f6 false true false false) := by
  refine returnsInHanded_of_change (C := Try.checked) own started (by kernel_rfl) Try.func6
    (ChangeSpec.witness6 (enc := enc) (C := Try.checked) false ⟨#[], #[.agg #[.int .i64 0, .int .i64 0, .slice none 0 0], .agg #[.int .i64 0, .int .i64 0, .int .i64 0]], []⟩ 8 (by kernel_rfl) (by kernel_rfl) (by kernel_rfl) (by kernel_rfl)) ?_
  intro W base args ds gs before hval0 hW hcnd _
  have hval : ∀ (j : Nat) t v, Try.f6.params[j]? = some t → args[j]? = some v → Value.okWide Try.prog W .any base t v := hval0
  have hW' := hW
  obtain ⟨p, q, hA0, hV, rfl, hfz, hnd⟩ := hW
  have hA : DataW.TrodAll enc Try.prog W 0 (fun _ => true) true Try.f6.params.toList args.toList ds p := hA0
  rw [Try.params6] at hA hval
  obtain ⟨v0, vs0, d0, ds0, p0, q0, hargs, rfl, rfl, h0, r0⟩ := trodAll_cons hA
  obtain ⟨v1, vs1, d1, ds1, p1, q1, rfl, rfl, rfl, h1, r1⟩ := trodAll_cons r0
  obtain ⟨rfl, rfl, rfl⟩ := trodAll_nil r1
  obtain rfl : args = #[v0, v1] := by cases args; simp_all
  obtain ⟨rfl, rfl⟩ := trodVars_none hV
  have k0 := h0
  have lt0 : ∀ x ∈ p0, x.block < W.heap.size := by obtain ⟨m, hm⟩ := k0; exact DataW.trod_lt m _ _ _ hm
  obtain ⟨gr0, gs0, a0, len0, cap0, es0, rfl, u0, y0, w0⟩ := open_graph (hval 0 24 v0 rfl rfl) h0
  have k1 := h1
  have lt1 : ∀ x ∈ p1, x.block < W.heap.size := by obtain ⟨m, hm⟩ := k1; exact DataW.trod_lt m _ _ _ hm
  obtain ⟨gf1, gl1, gt1, rfl, u1, y1, w1⟩ := open_edge (hval 1 42 v1 rfl rfl) h1
  clear hA0 hval0
  refine (walk W gr0 gs0 a0 len0 cap0 es0 gf1 gl1 gt1 u0 y0 w0 u1 y1 w1).mono fun e W' ⟨he, hg⟩ => ?_
  subst he
  exact ⟨_, rfl, _, _, _, [], _, [], hW', trodAll_mk1 (shut_bool Try.underlying4 _), (trodAll_cons_mk (Below.trod laidOut (by kernel_rfl) (of_decide_eq_true (by kernel_rfl)) k0 hg lt0) (trodAll_cons_mk (Below.trod laidOut (by kernel_rfl) (of_decide_eq_true (by kernel_rfl)) k1 hg lt1) trodAll_mk0)), rfl, hg.frame _, fun h => by cases h⟩

theorem over : Rows.fnExactLoopOfRow.holds Try.pinned (OpenSpec.ofChange Rows.fnExactLoopOfSpec) :=
  OpenClaim.holds_of_wide 6 Try.f6 rfl rfl rfl rfl rfl rfl rfl ⟨rfl, rfl, rfl, rfl, rfl⟩ rfl rfl rfl rfl rfl (by kernel_rfl) Try.func6 (by kernel_rfl)
    (of_decide_eq_true (by kernel_rfl)) (by unfold Func.isWrapper; first | (rw [if_pos (by decide +kernel)]; kernel_rfl) | (rw [if_neg (by decide +kernel)]; exact ⟨rfl, rfl⟩))
    (fun os started H enc _ => lifted os started H enc)

theorem proved : Rows.FnExactLoopOfSaid := over
#print axioms proved
end Go.Proofs.Ytacmpbekgipkfaa.fnExactLoopOf
