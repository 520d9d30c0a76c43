/- For every graph, laws.FnExactBasisOf returns true and leaves its arguments as they are: the program's words are the model's, in the same order, each in memory of its own. Conditions: none beyond the row's. -/
import Derived.WalkKit
import Derived.ProofKit
import Derived.OpenShut
import Derived.ShutString
import Derived.Below
import Derived.Test.YtpjlamnjiilgbaaGreatJ1Ba
import Derived.Test.YtpjlamnjiilgbaaGreatJ2Ba
import Derived.Test.YtpjlamnjiilgbaaGreatJ27Ba
namespace Go.Proofs.YtpjlamnjiilgbaaGreat.fnExactBasisOf
open Go.ChangeShapes Go.WideShapes Go.ChangeAt Go.RowKit
open Go.ChangeMaps (open_string shut_string)
set_option linter.unusedVariables false
theorem own : ownKnob Tryz.prog.godebug = none := by kernel_rfl
theorem laidOut : laidOutB Tryz.prog = true := by kernel_rfl
theorem walk0_big0 (w : World) (r0 s0 : Int) (a0 : Option Addr) (len0 cap0 : Nat) (m0 : (len0 : Int) ≤ 9223372036854775807) (hbig : 1048576 < len0) :
 Calls Tryz.prog 4 #[.agg #[.int .i64 r0, .int .i64 s0, .slice a0 len0 cap0]] w fun e w' => e = .returned (.bool true) ∧ Below w.heap.size w w' := by
 have hb0 := Below.refl w.heap.size w
 obtain ⟨b0, hx0⟩ := exq (w.alloc (.cells #[.int .i64 r0, .int .i64 s0, .slice a0 len0 cap0] 36))
 have hy0 : Below w.heap.size w b0 := by rw [hx0]; exact hb0.alloc hb0.size _
 have hnb0 : b0.heap[w.heap.size]? = some (.cells #[.int .i64 r0, .int .i64 s0, .slice a0 len0 cap0] 36 (0, 0)) := by rw [hx0]; exact heap_alloc_new _ _
 have hlt0 : w.heap.size < b0.heap.size := by rw [hx0]; simp
 have c00 := cell_of_heap hnb0 0
 simp at c00
 have c01 := cell_of_heap hnb0 1
 simp at c01
 have c02 := cell_of_heap hnb0 2
 simp at c02
 clear hnb0
 replace hx0 := hidI hx0
 go_enter Tryz.func4, Tryz.ntmps4
 go_wp2_with fail
 rw [← hx0.out]
 refine (szGraph_any b0 r0 s0 a0 len0 cap0 1048576 m0 (by omega) (by omega)).mono ?_
 rw [if_pos (by omega)]
 rintro e w1 ⟨rfl, hbn1⟩
 have hb1 := hy0.trans (hbn1.mono hy0.size)
 have hs1 := hbn1.size
 replace c00 := (hbn1.cell (p := (⟨w.heap.size, 0, none⟩ : Addr)) (show w.heap.size < b0.heap.size by omega)).trans c00
 replace c01 := (hbn1.cell (p := (⟨w.heap.size, 1, none⟩ : Addr)) (show w.heap.size < b0.heap.size by omega)).trans c01
 replace c02 := (hbn1.cell (p := (⟨w.heap.size, 2, none⟩ : Addr)) (show w.heap.size < b0.heap.size by omega)).trans c02
 go_wp2
 go_ret
 exact ⟨rfl, hb1⟩
set_option maxHeartbeats 3200000 in
theorem walk0 (w : World) (r0 s0 : Int) (v0 : Value) (es0 : List Ed) (br0 : -9223372036854775808 ≤ r0 ∧ r0 ≤ 9223372036854775807) (bs0 : -9223372036854775808 ≤ s0 ∧ s0 ≤ 9223372036854775807) (h0 : ReadE w.heap.size w v0 es0) (i0 : InE es0) (lg : es0.length ≤ 1048576) :
 Calls Tryz.prog 4 #[.agg #[.int .i64 r0, .int .i64 s0, v0]] w fun e w' => e = .returned (.bool true) ∧ Below w.heap.size w w' := by
 obtain ⟨ad0, cap0, rfl, hnc0⟩ := h0.form
 have hr0 := hidI h0
 clear h0 hnc0
 replace i0 := hidI i0
 obtain ⟨F0, hF0⟩ := exq (baL r0 s0 es0)
 have hfl0 : F0.length ≤ 1000000000 ∧ sumN (F0.map List.length) ≤ 100000000 := by rw [hF0]; exact baL_le _ _ _
 obtain ⟨hfl0, hfs0⟩ := hfl0
 replace hF0 := hidI hF0
 have hbw := Below.refl w.heap.size w
 obtain ⟨w1', hw1⟩ : ∃ z, z = w.alloc (.cells #[.int .i64 r0, .int .i64 s0, .slice ad0 es0.length cap0] 36) := ⟨_, rfl⟩
 have hbn : Below w.heap.size w w1' := by rw [hw1]; exact (Below.refl _ _).alloc (Nat.le_refl _) _
 have hlt1 : w.heap.size < w1'.heap.size := by rw [hw1]; simp
 have hnb : w1'.heap[w.heap.size]? = some (.cells #[.int .i64 r0, .int .i64 s0, .slice ad0 es0.length cap0] 36 (0, 0)) := by rw [hw1]; exact heap_alloc_new _ _
 replace hw1 := hidI hw1
 have hb1 := hbw.trans (hbn.mono hbw.size)
 have hs1 := hbn.size
 clear hbn
 have ca00 : w1'.cell? ⟨w.heap.size, 0, none⟩ = some (.int .i64 r0) := by simpa using cell_of_heap hnb 0
 have ca01 : w1'.cell? ⟨w.heap.size, 1, none⟩ = some (.int .i64 s0) := by simpa using cell_of_heap hnb 1
 have ca02 : w1'.cell? ⟨w.heap.size, 2, none⟩ = some (.slice ad0 es0.length cap0) := by simpa using cell_of_heap hnb 2
 clear hnb
 go_enter Tryz.func4, Tryz.ntmps4
 go_wp2_with fail
 try rw [← hw1.out]
 refine (szGraph_any w1' r0 s0 _ es0.length cap0 1048576 (by omega) (by omega) (by omega)).mono ?_
 rw [if_neg (by omega)]
 rintro e w2' ⟨rfl, hbn⟩
 have hb2 := hb1.trans (hbn.mono hb1.size)
 have hs2 := hbn.size
 replace ca00 := (hbn.cell (p := (⟨w.heap.size, 0, none⟩ : Addr)) (show w.heap.size < w1'.heap.size by omega)).trans ca00
 replace ca01 := (hbn.cell (p := (⟨w.heap.size, 1, none⟩ : Addr)) (show w.heap.size < w1'.heap.size by omega)).trans ca01
 replace ca02 := (hbn.cell (p := (⟨w.heap.size, 2, none⟩ : Addr)) (show w.heap.size < w1'.heap.size by omega)).trans ca02
 clear hbn
 have hleft0 : ¬ 1048576 - (es0.length : Int) < 0 := by omega
 go_wp2_with fail
 refine (toGraph_any w2' r0 s0 _ es0.length (flatE es0) ((hr0.out.below hb2).mono hb2.size) (by omega)).mono ?_
 rintro e w3' ⟨u0a, u0c, rfl, hrow, hbn⟩
 have hb3 := hb2.trans (hbn.mono hb2.size)
 have hs3 := hbn.size
 replace ca00 := (hbn.cell (p := (⟨w.heap.size, 0, none⟩ : Addr)) (show w.heap.size < w2'.heap.size by omega)).trans ca00
 replace ca01 := (hbn.cell (p := (⟨w.heap.size, 1, none⟩ : Addr)) (show w.heap.size < w2'.heap.size by omega)).trans ca01
 replace ca02 := (hbn.cell (p := (⟨w.heap.size, 2, none⟩ : Addr)) (show w.heap.size < w2'.heap.size by omega)).trans ca02
 clear hbn
 have hu0 := hidI hrow
 clear hrow
 go_wp2_with fail
 refine (specBasis w3' r0 s0 _ es0 (hu0.out.read.mono (by omega)) bs0 (by omega)).mono ?_
 intro e w4' hpost
 rw [← hF0.out] at hpost
 obtain ⟨m0, m0u, rfl, hrow0, hbn⟩ := hpost
 have hb4 := hb3.trans (hbn.mono hb3.size)
 have hs4 := hbn.size
 replace hu0 := hidI (hu0.out.below hbn (by omega))
 replace ca00 := (hbn.cell (p := (⟨w.heap.size, 0, none⟩ : Addr)) (show w.heap.size < w3'.heap.size by omega)).trans ca00
 replace ca01 := (hbn.cell (p := (⟨w.heap.size, 1, none⟩ : Addr)) (show w.heap.size < w3'.heap.size by omega)).trans ca01
 replace ca02 := (hbn.cell (p := (⟨w.heap.size, 2, none⟩ : Addr)) (show w.heap.size < w3'.heap.size by omega)).trans ca02
 clear hbn
 have hm0 := hidI hrow0
 clear hrow0
 clear hu0
 go_wp2_with fail
 refine (toGraph_any w4' r0 s0 _ es0.length (flatE es0) ((hr0.out.below hb4).mono hb4.size) (by omega)).mono ?_
 rintro e w5' ⟨x0a, x0c, rfl, hrow, hbn⟩
 have hb5 := hb4.trans (hbn.mono hb4.size)
 have hs5 := hbn.size
 replace hm0 := hidI (hm0.out.below hbn (by omega))
 replace ca00 := (hbn.cell (p := (⟨w.heap.size, 0, none⟩ : Addr)) (show w.heap.size < w4'.heap.size by omega)).trans ca00
 replace ca01 := (hbn.cell (p := (⟨w.heap.size, 1, none⟩ : Addr)) (show w.heap.size < w4'.heap.size by omega)).trans ca01
 replace ca02 := (hbn.cell (p := (⟨w.heap.size, 2, none⟩ : Addr)) (show w.heap.size < w4'.heap.size by omega)).trans ca02
 clear hbn
 have hx0 := hidI hrow
 clear hrow
 have da00_6 : ∀ o : Obj, (w5'.alloc o).cell? ⟨w.heap.size, 0, none⟩ = some (.int .i64 r0) := fun o => (((Below.refl w5'.heap.size w5').alloc (Nat.le_refl _) o).cell (p := (⟨w.heap.size, 0, none⟩ : Addr)) (show w.heap.size < w5'.heap.size by omega)).trans ca00
 have da01_6 : ∀ o : Obj, (w5'.alloc o).cell? ⟨w.heap.size, 1, none⟩ = some (.int .i64 s0) := fun o => (((Below.refl w5'.heap.size w5').alloc (Nat.le_refl _) o).cell (p := (⟨w.heap.size, 1, none⟩ : Addr)) (show w.heap.size < w5'.heap.size by omega)).trans ca01
 have da02_6 : ∀ o : Obj, (w5'.alloc o).cell? ⟨w.heap.size, 2, none⟩ = some (.slice ad0 es0.length cap0) := fun o => (((Below.refl w5'.heap.size w5').alloc (Nat.le_refl _) o).cell (p := (⟨w.heap.size, 2, none⟩ : Addr)) (show w.heap.size < w5'.heap.size by omega)).trans ca02
 obtain ⟨w6', hw6⟩ : ∃ z, z = w5'.alloc (.cells #[.int .i64 r0, .int .i64 s0, .slice x0a es0.length x0c] 26) := ⟨_, rfl⟩
 have hbn : Below w5'.heap.size w5' w6' := by rw [hw6]; exact (Below.refl _ _).alloc (Nat.le_refl _) _
 have hlt6 : w5'.heap.size < w6'.heap.size := by rw [hw6]; simp
 have hnb : w6'.heap[w5'.heap.size]? = some (.cells #[.int .i64 r0, .int .i64 s0, .slice x0a es0.length x0c] 26 (0, 0)) := by rw [hw6]; exact heap_alloc_new _ _
 replace hw6 := hidI hw6
 have hb6 := hb5.trans (hbn.mono hb5.size)
 have hs6 := hbn.size
 replace hm0 := hidI (hm0.out.below hbn (by omega))
 replace hx0 := hidI (hx0.out.below hbn (by omega))
 replace ca00 := (hbn.cell (p := (⟨w.heap.size, 0, none⟩ : Addr)) (show w.heap.size < w5'.heap.size by omega)).trans ca00
 replace ca01 := (hbn.cell (p := (⟨w.heap.size, 1, none⟩ : Addr)) (show w.heap.size < w5'.heap.size by omega)).trans ca01
 replace ca02 := (hbn.cell (p := (⟨w.heap.size, 2, none⟩ : Addr)) (show w.heap.size < w5'.heap.size by omega)).trans ca02
 clear hbn
 have cx00 : w6'.cell? ⟨w5'.heap.size, 0, none⟩ = some (.int .i64 r0) := by simpa using cell_of_heap hnb 0
 have cx01 : w6'.cell? ⟨w5'.heap.size, 1, none⟩ = some (.int .i64 s0) := by simpa using cell_of_heap hnb 1
 have cx02 : w6'.cell? ⟨w5'.heap.size, 2, none⟩ = some (.slice x0a es0.length x0c) := by simpa using cell_of_heap hnb 2
 clear hnb
 go_wp2_with fail
 try rw [← hw6.out]
 clear da00_6 da01_6 da02_6
 refine (progBasis w6' r0 s0 _ es0 (hx0.out.read.mono (by omega)) (by omega)).mono ?_
 intro e w7' hpost
 rw [← hF0.out] at hpost
 obtain ⟨g0, g0u, rfl, hrow0, hbn⟩ := hpost
 have hb7 := hb6.trans (hbn.mono hb6.size)
 have hs7 := hbn.size
 replace hm0 := hidI (hm0.out.below hbn (by omega))
 replace hx0 := hidI (hx0.out.below hbn (by omega))
 replace ca00 := (hbn.cell (p := (⟨w.heap.size, 0, none⟩ : Addr)) (show w.heap.size < w6'.heap.size by omega)).trans ca00
 replace ca01 := (hbn.cell (p := (⟨w.heap.size, 1, none⟩ : Addr)) (show w.heap.size < w6'.heap.size by omega)).trans ca01
 replace ca02 := (hbn.cell (p := (⟨w.heap.size, 2, none⟩ : Addr)) (show w.heap.size < w6'.heap.size by omega)).trans ca02
 replace cx00 := (hbn.cell (p := (⟨w5'.heap.size, 0, none⟩ : Addr)) (show w5'.heap.size < w6'.heap.size by omega)).trans cx00
 replace cx01 := (hbn.cell (p := (⟨w5'.heap.size, 1, none⟩ : Addr)) (show w5'.heap.size < w6'.heap.size by omega)).trans cx01
 replace cx02 := (hbn.cell (p := (⟨w5'.heap.size, 2, none⟩ : Addr)) (show w5'.heap.size < w6'.heap.size by omega)).trans cx02
 clear hbn
 have hg0 := hidI hrow0
 clear hrow0
 go_wp2_with fail
 refine (eqSS_law w7' g0 m0 F0 (hg0.out.read.mono (by omega)) (hm0.out.read.mono (by omega))).mono ?_
 rintro e w8' ⟨rfl, hbn, hzz⟩
 clear hzz
 have hb8 := hb7.trans (hbn.mono hb7.size)
 have hs8 := hbn.size
 replace hm0 := hidI (hm0.out.below hbn (by omega))
 replace hx0 := hidI (hx0.out.below hbn (by omega))
 replace hg0 := hidI (hg0.out.below hbn (by omega))
 replace ca00 := (hbn.cell (p := (⟨w.heap.size, 0, none⟩ : Addr)) (show w.heap.size < w7'.heap.size by omega)).trans ca00
 replace ca01 := (hbn.cell (p := (⟨w.heap.size, 1, none⟩ : Addr)) (show w.heap.size < w7'.heap.size by omega)).trans ca01
 replace ca02 := (hbn.cell (p := (⟨w.heap.size, 2, none⟩ : Addr)) (show w.heap.size < w7'.heap.size by omega)).trans ca02
 replace cx00 := (hbn.cell (p := (⟨w5'.heap.size, 0, none⟩ : Addr)) (show w5'.heap.size < w7'.heap.size by omega)).trans cx00
 replace cx01 := (hbn.cell (p := (⟨w5'.heap.size, 1, none⟩ : Addr)) (show w5'.heap.size < w7'.heap.size by omega)).trans cx01
 replace cx02 := (hbn.cell (p := (⟨w5'.heap.size, 2, none⟩ : Addr)) (show w5'.heap.size < w7'.heap.size by omega)).trans cx02
 clear hbn
 go_wp2_with fail
 have hdr := below_dn (Below.refl w8'.heap.size w8') 1
 have hcg := toGraph_any w8'.drew r0 s0 _ es0.length (flatE es0) (((hr0.out.below hb8).below (hdr.mono hb8.size)).mono hb8.size) (by omega)
 go_region_held3 (fun z => z.cell? ⟨w5'.heap.size, 0, none⟩ = some (.int .i64 r0) ∧ z.cell? ⟨w5'.heap.size, 1, none⟩ = some (.int .i64 s0) ∧ z.cell? ⟨w5'.heap.size, 2, none⟩ = some (.slice x0a es0.length x0c) ∧ z.cell? ⟨w.heap.size, 0, none⟩ = some (.int .i64 r0) ∧ z.cell? ⟨w.heap.size, 1, none⟩ = some (.int .i64 s0) ∧ z.cell? ⟨w.heap.size, 2, none⟩ = some (.slice ad0 es0.length cap0)) (first | ((repeat' apply And.intro) <;> assumption) | go_keep) (first | (go_at_call 17; (with_reducible refine hcg.mono ?_); rintro e w9' ⟨ta, tc, rfl, hrow, hbn⟩; replace hbn := hdr.trans hbn; have hb9 := hb8.trans (hbn.mono hb8.size); have hs9 := hbn.size; replace hm0 := hidI (hm0.out.below hbn (by omega)); replace hx0 := hidI (hx0.out.below hbn (by omega)); replace hg0 := hidI (hg0.out.below hbn (by omega)); replace ca00 := (hbn.cell (p := (⟨w.heap.size, 0, none⟩ : Addr)) (show w.heap.size < w8'.heap.size by omega)).trans ca00; replace ca01 := (hbn.cell (p := (⟨w.heap.size, 1, none⟩ : Addr)) (show w.heap.size < w8'.heap.size by omega)).trans ca01; replace ca02 := (hbn.cell (p := (⟨w.heap.size, 2, none⟩ : Addr)) (show w.heap.size < w8'.heap.size by omega)).trans ca02; replace cx00 := (hbn.cell (p := (⟨w5'.heap.size, 0, none⟩ : Addr)) (show w5'.heap.size < w8'.heap.size by omega)).trans cx00; replace cx01 := (hbn.cell (p := (⟨w5'.heap.size, 1, none⟩ : Addr)) (show w5'.heap.size < w8'.heap.size by omega)).trans cx01; replace cx02 := (hbn.cell (p := (⟨w5'.heap.size, 2, none⟩ : Addr)) (show w5'.heap.size < w8'.heap.size by omega)).trans cx02; have hce := eqGraph_same w9' r0 s0 _ _ es0.length (flatE es0) (hx0.out.read.mono (by omega)) (hrow.read.mono (by omega)); clear hbn hcg) | (go_at_call 20; (with_reducible refine hce.mono ?_); rintro e w10' ⟨rfl, hbn⟩; have hb10 := hb9.trans (hbn.mono hb9.size); have hs10 := hbn.size; replace hm0 := hidI (hm0.out.below hbn (by omega)); replace hx0 := hidI (hx0.out.below hbn (by omega)); replace hg0 := hidI (hg0.out.below hbn (by omega)); replace ca00 := (hbn.cell (p := (⟨w.heap.size, 0, none⟩ : Addr)) (show w.heap.size < w9'.heap.size by omega)).trans ca00; replace ca01 := (hbn.cell (p := (⟨w.heap.size, 1, none⟩ : Addr)) (show w.heap.size < w9'.heap.size by omega)).trans ca01; replace ca02 := (hbn.cell (p := (⟨w.heap.size, 2, none⟩ : Addr)) (show w.heap.size < w9'.heap.size by omega)).trans ca02; replace cx00 := (hbn.cell (p := (⟨w5'.heap.size, 0, none⟩ : Addr)) (show w5'.heap.size < w9'.heap.size by omega)).trans cx00; replace cx01 := (hbn.cell (p := (⟨w5'.heap.size, 1, none⟩ : Addr)) (show w5'.heap.size < w9'.heap.size by omega)).trans cx01; replace cx02 := (hbn.cell (p := (⟨w5'.heap.size, 2, none⟩ : Addr)) (show w5'.heap.size < w9'.heap.size by omega)).trans cx02; clear hbn hce hrow))
 go_wp2_with fail
 refine (markGraph_any w10' (w4'.heap.size) (w5'.heap.size) r0 s0 _ es0.length (flatE es0) 1 hx0.out (by omega) (by omega) (by omega) (by omega)).mono ?_
 rintro e w11' ⟨rfl, hm, wm, hbn, ho⟩
 have hbm11 := hb10.trans (hbn.mono hb10.size)
 have hsm11 := hbn.size
 replace hm0 := hidI ((hm0.out.below hbn (by omega)).only ho (by omega))
 replace hg0 := hidI ((hg0.out.below hbn (by omega)).only ho (by omega))
 replace ca00 := (ho.cell (p := (⟨w.heap.size, 0, none⟩ : Addr)) (show w.heap.size < w4'.heap.size ∨ w5'.heap.size ≤ w.heap.size by omega)).trans ((hbn.cell (p := (⟨w.heap.size, 0, none⟩ : Addr)) (show w.heap.size < w10'.heap.size by omega)).trans ca00)
 replace ca01 := (ho.cell (p := (⟨w.heap.size, 1, none⟩ : Addr)) (show w.heap.size < w4'.heap.size ∨ w5'.heap.size ≤ w.heap.size by omega)).trans ((hbn.cell (p := (⟨w.heap.size, 1, none⟩ : Addr)) (show w.heap.size < w10'.heap.size by omega)).trans ca01)
 replace ca02 := (ho.cell (p := (⟨w.heap.size, 2, none⟩ : Addr)) (show w.heap.size < w4'.heap.size ∨ w5'.heap.size ≤ w.heap.size by omega)).trans ((hbn.cell (p := (⟨w.heap.size, 2, none⟩ : Addr)) (show w.heap.size < w10'.heap.size by omega)).trans ca02)
 replace cx00 := (ho.cell (p := (⟨w5'.heap.size, 0, none⟩ : Addr)) (show w5'.heap.size < w4'.heap.size ∨ w5'.heap.size ≤ w5'.heap.size by omega)).trans ((hbn.cell (p := (⟨w5'.heap.size, 0, none⟩ : Addr)) (show w5'.heap.size < w10'.heap.size by omega)).trans cx00)
 replace cx01 := (ho.cell (p := (⟨w5'.heap.size, 1, none⟩ : Addr)) (show w5'.heap.size < w4'.heap.size ∨ w5'.heap.size ≤ w5'.heap.size by omega)).trans ((hbn.cell (p := (⟨w5'.heap.size, 1, none⟩ : Addr)) (show w5'.heap.size < w10'.heap.size by omega)).trans cx01)
 replace cx02 := (ho.cell (p := (⟨w5'.heap.size, 2, none⟩ : Addr)) (show w5'.heap.size < w4'.heap.size ∨ w5'.heap.size ≤ w5'.heap.size by omega)).trans ((hbn.cell (p := (⟨w5'.heap.size, 2, none⟩ : Addr)) (show w5'.heap.size < w10'.heap.size by omega)).trans cx02)
 have hb11 := hbm11.trans (ho.below (by omega))
 have hs11 : w10'.heap.size ≤ w11'.heap.size := by have := ho.size; omega
 clear hbn ho hbm11
 clear hm hx0
 clear cx00 cx01 cx02
 have hkk : decide ((1 + 3 * (es0.length : Int)) < 0) = false := by rw [decide_eq_false_iff_not]; omega
 have hkk2 : ¬ (1 + 3 * (es0.length : Int)) < 0 := by omega
 go_wp2_with fail
 refine (eqSS_law w11' g0 m0 F0 (hg0.out.read.mono (by omega)) (hm0.out.read.mono (by omega))).mono ?_
 rintro e w12' ⟨rfl, hbn, hzz⟩
 clear hzz
 have hb12 := hb11.trans (hbn.mono hb11.size)
 have hs12 := hbn.size
 replace hm0 := hidI (hm0.out.below hbn (by omega))
 replace hg0 := hidI (hg0.out.below hbn (by omega))
 replace ca00 := (hbn.cell (p := (⟨w.heap.size, 0, none⟩ : Addr)) (show w.heap.size < w11'.heap.size by omega)).trans ca00
 replace ca01 := (hbn.cell (p := (⟨w.heap.size, 1, none⟩ : Addr)) (show w.heap.size < w11'.heap.size by omega)).trans ca01
 replace ca02 := (hbn.cell (p := (⟨w.heap.size, 2, none⟩ : Addr)) (show w.heap.size < w11'.heap.size by omega)).trans ca02
 clear hbn
 go_wp2_with fail
 refine (markSS_any w12' (w6'.heap.size) (w7'.heap.size) g0 _ F0 1 hg0.out (by omega) (by omega)).mono ?_
 rintro e w13' ⟨rfl, hm, ho⟩
 have hb13 := hb12.trans (ho.below (by omega))
 have hs13 : w12'.heap.size ≤ w13'.heap.size := by have := ho.size; omega
 replace hm0 := hidI (hm0.out.only ho (by omega))
 replace ca00 := (ho.cell (p := (⟨w.heap.size, 0, none⟩ : Addr)) (show w.heap.size < w6'.heap.size ∨ w7'.heap.size ≤ w.heap.size by omega)).trans ca00
 replace ca01 := (ho.cell (p := (⟨w.heap.size, 1, none⟩ : Addr)) (show w.heap.size < w6'.heap.size ∨ w7'.heap.size ≤ w.heap.size by omega)).trans ca01
 replace ca02 := (ho.cell (p := (⟨w.heap.size, 2, none⟩ : Addr)) (show w.heap.size < w6'.heap.size ∨ w7'.heap.size ≤ w.heap.size by omega)).trans ca02
 clear ho
 have hk0 := hidI hm
 clear hm hg0
 have hk0f : decide ((1 + (sumN (F0.map List.length) : Nat)) < 0) = false := by rw [decide_eq_false_iff_not]; omega
 have hk0g : ¬ (1 + (sumN (F0.map List.length) : Nat)) < 0 := by omega
 have hkq : ((1 + (sumN (F0.map List.length) : Nat)) != (1 + (sumN (F0.map List.length) : Nat))) = false := by simp
 go_wp2_with fail
 refine (heldSS_any w13' w13'.heap.size g0 (F0.map List.length) 1 (hk0.out.read.mono (by omega)) (by omega) (by omega)).mono ?_
 rintro e wz ⟨rfl, rfl⟩
 go_wp2_with fail
 refine (toGraph_any w13' r0 s0 _ es0.length (flatE es0) ((hr0.out.below hb13).mono hb13.size) (by omega)).mono ?_
 rintro e w14' ⟨y0a, y0c, rfl, hrow, hbn⟩
 have hb14 := hb13.trans (hbn.mono hb13.size)
 have hs14 := hbn.size
 replace hm0 := hidI (hm0.out.below hbn (by omega))
 replace hk0 := hidI (hk0.out.below hbn (by omega))
 replace ca00 := (hbn.cell (p := (⟨w.heap.size, 0, none⟩ : Addr)) (show w.heap.size < w13'.heap.size by omega)).trans ca00
 replace ca01 := (hbn.cell (p := (⟨w.heap.size, 1, none⟩ : Addr)) (show w.heap.size < w13'.heap.size by omega)).trans ca01
 replace ca02 := (hbn.cell (p := (⟨w.heap.size, 2, none⟩ : Addr)) (show w.heap.size < w13'.heap.size by omega)).trans ca02
 clear hbn
 have hy0 := hidI hrow
 clear hrow
 go_wp2_with fail
 refine (progBasis w14' r0 s0 _ es0 (hy0.out.read.mono (by omega)) (by omega)).mono ?_
 intro e w15' hpost
 rw [← hF0.out] at hpost
 obtain ⟨q0, q0u, rfl, hrow0, hbn⟩ := hpost
 have hb15 := hb14.trans (hbn.mono hb14.size)
 have hs15 := hbn.size
 replace hm0 := hidI (hm0.out.below hbn (by omega))
 replace hk0 := hidI (hk0.out.below hbn (by omega))
 replace hy0 := hidI (hy0.out.below hbn (by omega))
 replace ca00 := (hbn.cell (p := (⟨w.heap.size, 0, none⟩ : Addr)) (show w.heap.size < w14'.heap.size by omega)).trans ca00
 replace ca01 := (hbn.cell (p := (⟨w.heap.size, 1, none⟩ : Addr)) (show w.heap.size < w14'.heap.size by omega)).trans ca01
 replace ca02 := (hbn.cell (p := (⟨w.heap.size, 2, none⟩ : Addr)) (show w.heap.size < w14'.heap.size by omega)).trans ca02
 clear hbn
 have hq0 := hidI hrow0
 clear hrow0
 clear hy0
 go_wp2_with fail
 refine (eqSS_law w15' q0 m0 F0 (hq0.out.read.mono (by omega)) (hm0.out.read.mono (by omega))).mono ?_
 rintro e w16' ⟨rfl, hbn, hzz⟩
 clear hzz
 have hb16 := hb15.trans (hbn.mono hb15.size)
 have hs16 := hbn.size
 replace hm0 := hidI (hm0.out.below hbn (by omega))
 replace hk0 := hidI (hk0.out.below hbn (by omega))
 replace hq0 := hidI (hq0.out.below hbn (by omega))
 replace ca00 := (hbn.cell (p := (⟨w.heap.size, 0, none⟩ : Addr)) (show w.heap.size < w15'.heap.size by omega)).trans ca00
 replace ca01 := (hbn.cell (p := (⟨w.heap.size, 1, none⟩ : Addr)) (show w.heap.size < w15'.heap.size by omega)).trans ca01
 replace ca02 := (hbn.cell (p := (⟨w.heap.size, 2, none⟩ : Addr)) (show w.heap.size < w15'.heap.size by omega)).trans ca02
 clear hbn
 go_wp2_with fail
 refine (heldSS_any w16' w16'.heap.size g0 (F0.map List.length) 1 (hk0.out.read.mono (by omega)) (by omega) (by omega)).mono ?_
 rintro e wz ⟨rfl, rfl⟩
 go_wp2_with fail
 go_ret
 exact ⟨rfl, hb16⟩
theorem walk (W : World) (r0 s0 : Int) (a0 : Option Addr) (len0 cap0 : Nat) (es0 : List Ed) (u0 : (Lit.int .i64 r0).wf = true) (y0 : (Lit.int .i64 s0).wf = true) (w0 : IsRowE W a0 len0 cap0 es0) :
 Calls Tryz.prog 4 #[.agg #[.int .i64 r0, .int .i64 s0, .slice a0 len0 cap0]] W fun e w' => e = .returned (.bool true) ∧ Below W.heap.size W w' := by
 obtain ⟨e0, i0, m0⟩ := w0.len
 by_cases s0_ : 1048576 < len0
 · exact walk0_big0 W r0 s0 a0 len0 cap0 m0 s0_
 exact walk0 W r0 s0 _ es0 (wf_i64 u0) (wf_i64 y0) (w0.read (by omega)) i0 (by omega)
set_option maxRecDepth 100000 in
theorem lifted (os : Os) (started : os.Started) (H : Type) (enc : TypeId × Value → H) :
 ReturnsInHanded {} Tryz.checked os 4 .any (Rows.fnExactBasisOfSpec.pre6 enc Tryz.prog Tryz.f4 Rows.fnExactBasisOfRow.domain false) (Rows.fnExactBasisOfSpec.post enc Tryz.prog Tryz.f4 false true false false) := by
 refine returnsInHanded_of_change (C := Tryz.checked) own started (by kernel_rfl) Tryz.func4
  (ChangeSpec.witness6 (enc := enc) (C := Tryz.checked) false ⟨#[], #[.agg #[.int .i64 0, .int .i64 0, .slice none 0 0]], []⟩ 8 (by kernel_rfl) (by kernel_rfl) (by kernel_rfl) (by kernel_rfl)) ?_
 intro W base args ds gs before hval0 hW hcnd _
 have hval : ∀ (j : Nat) t v, Tryz.f4.params[j]? = some t → args[j]? = some v → Value.okWide Tryz.prog W .any base t v := hval0
 have hW' := hW
 obtain ⟨p, q, hA0, hV, rfl, hfz, hnd⟩ := hW
 have hA : DataW.TrodAll enc Tryz.prog W 0 (fun _ => true) true Tryz.f4.params.toList args.toList ds p := hA0
 rw [Tryz.params4] at hA hval
 obtain ⟨v0, vs0, d0, ds0, p0, q0, hargs, rfl, rfl, h0, r0⟩ := trodAll_cons hA
 obtain ⟨rfl, rfl, rfl⟩ := trodAll_nil r0
 obtain rfl : args = #[v0] := by cases args; simp_all
 obtain ⟨rfl, rfl⟩ := trodVars_none hV
 have k0 := h0
 have lt0 : ∀ x ∈ p0, x.block < W.heap.size := by obtain ⟨m, hm⟩ := k0; exact DataW.trod_lt m _ _ _ hm
 obtain ⟨gr0, gs0, a0, len0, cap0, es0, rfl, u0, y0, w0⟩ := open_graph (hval 0 36 v0 rfl rfl) h0
 clear hA0 hval0
 refine (walk W gr0 gs0 a0 len0 cap0 es0 u0 y0 w0).mono fun e W' ⟨he, hg⟩ => ?_
 subst he
 exact ⟨_, rfl, _, _, _, [], _, [], hW', trodAll_mk1 (shut_bool Tryz.underlying4 _), (trodAll_cons_mk (Below.trod laidOut (by kernel_rfl) (of_decide_eq_true (by kernel_rfl)) k0 hg lt0) trodAll_mk0), rfl, hg.frame _, fun h => by cases h⟩
theorem over : Rows.fnExactBasisOfRow.holds Tryz.pinned (OpenSpec.ofChange Rows.fnExactBasisOfSpec) :=
 OpenClaim.holds_of_wide 4 Tryz.f4 rfl rfl rfl rfl rfl rfl rfl ⟨rfl, rfl, rfl, rfl, rfl⟩ rfl rfl rfl rfl rfl (by kernel_rfl) Tryz.func4 (by kernel_rfl)
  (of_decide_eq_true (by kernel_rfl)) (by unfold Func.isWrapper; first | (rw [if_pos (by decide +kernel)]; kernel_rfl) | (rw [if_neg (by decide +kernel)]; exact ⟨rfl, rfl⟩))
  (fun os started H enc _ => lifted os started H enc)
theorem proved : Rows.FnExactBasisOfSaid := over
#print axioms proved
end Go.Proofs.YtpjlamnjiilgbaaGreat.fnExactBasisOf
