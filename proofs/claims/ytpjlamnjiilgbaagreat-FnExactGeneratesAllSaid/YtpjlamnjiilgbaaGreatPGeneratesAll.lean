/- For every graph and list of words, laws.FnExactGeneratesAll returns true and leaves its arguments as they are: the program's answer is the model's. Conditions: none beyond the row's. -/
import Derived.WalkKit
import Derived.ProofKit
import Derived.OpenShut
import Derived.ShutString
import Derived.Below
import Derived.Test.YtpjlamnjiilgbaaGreatJ1Is
import Derived.Test.YtpjlamnjiilgbaaGreatJ32Is
namespace Go.Proofs.YtpjlamnjiilgbaaGreat.fnExactGeneratesAll
open Go.ChangeShapes Go.WideShapes Go.ChangeAt Go.RowKit
open Go.ChangeMaps (open_string shut_string)
set_option linter.unusedVariables false
theorem own : ownKnob Tryz.prog.godebug = none := by kernel_rfl
theorem laidOut : laidOutB Tryz.prog = true := by kernel_rfl
theorem walk0_big0 (w : World) (r0 s0 : Int) (a0 : Option Addr) (len0 cap0 : Nat) (a1 : Option Addr) (len1 cap1 : Nat) (z1 : List (List Int)) (hd1 : HeadsW w (.slice a1 len1 cap1) (z1.map List.length)) (m0 : (len0 : Int) ≤ 9223372036854775807) (hbig : 1048576 < len0) :
 Calls Tryz.prog 6 #[.agg #[.int .i64 r0, .int .i64 s0, .slice a0 len0 cap0], .slice a1 len1 cap1] w fun e w' => e = .returned (.bool true) ∧ Below w.heap.size w w' := by
 have hb0 := Below.refl w.heap.size w
 obtain ⟨b0, hx0⟩ := exq (w.alloc (.cells #[.int .i64 r0, .int .i64 s0, .slice a0 len0 cap0] 36))
 have hy0 : Below w.heap.size w b0 := by rw [hx0]; exact hb0.alloc hb0.size _
 have hnb0 : b0.heap[w.heap.size]? = some (.cells #[.int .i64 r0, .int .i64 s0, .slice a0 len0 cap0] 36 (0, 0)) := by rw [hx0]; exact heap_alloc_new _ _
 have hlt0 : w.heap.size < b0.heap.size := by rw [hx0]; simp
 have c00 := cell_of_heap hnb0 0
 simp at c00
 have c01 := cell_of_heap hnb0 1
 simp at c01
 have c02 := cell_of_heap hnb0 2
 simp at c02
 clear hnb0
 replace hx0 := hidI hx0
 go_enter Tryz.func6, Tryz.ntmps6
 go_wp2_with fail
 rw [← hx0.out]
 refine (szGraph_any b0 r0 s0 a0 len0 cap0 1048576 m0 (by omega) (by omega)).mono ?_
 rw [if_pos (by omega)]
 rintro e w1 ⟨rfl, hbn1⟩
 have hb1 := hy0.trans (hbn1.mono hy0.size)
 have hs1 := hbn1.size
 replace c00 := (hbn1.cell (p := (⟨w.heap.size, 0, none⟩ : Addr)) (show w.heap.size < b0.heap.size by omega)).trans c00
 replace c01 := (hbn1.cell (p := (⟨w.heap.size, 1, none⟩ : Addr)) (show w.heap.size < b0.heap.size by omega)).trans c01
 replace c02 := (hbn1.cell (p := (⟨w.heap.size, 2, none⟩ : Addr)) (show w.heap.size < b0.heap.size by omega)).trans c02
 go_wp2
 go_ret
 exact ⟨rfl, hb1⟩
theorem walk0_big1 (w : World) (r0 s0 : Int) (a0 : Option Addr) (len0 cap0 : Nat) (a1 : Option Addr) (len1 cap1 : Nat) (z1 : List (List Int)) (hd1 : HeadsW w (.slice a1 len1 cap1) (z1.map List.length)) (m0 : (len0 : Int) ≤ 9223372036854775807) (qg : len0 ≤ 1048576) (hbig : 1048576 < len0 + (z1.length + sumN (z1.map List.length))) :
 Calls Tryz.prog 6 #[.agg #[.int .i64 r0, .int .i64 s0, .slice a0 len0 cap0], .slice a1 len1 cap1] w fun e w' => e = .returned (.bool true) ∧ Below w.heap.size w w' := by
 have hn0 : ¬ 1048576 - (len0 : Int) < 0 := by omega
 replace hbig := hidI hbig
 replace hd1 := hidI hd1
 obtain ⟨b0, hx0⟩ := exq (w.alloc (.cells #[.int .i64 r0, .int .i64 s0, .slice a0 len0 cap0] 36))
 have hy0 : Below w.heap.size w b0 := by rw [hx0]; exact (Below.refl _ _).alloc (Nat.le_refl _) _
 have hnb0 : b0.heap[w.heap.size]? = some (.cells #[.int .i64 r0, .int .i64 s0, .slice a0 len0 cap0] 36 (0, 0)) := by rw [hx0]; exact heap_alloc_new _ _
 have c00 := cell_of_heap hnb0 0
 simp at c00
 have c01 := cell_of_heap hnb0 1
 simp at c01
 have c02 := cell_of_heap hnb0 2
 simp at c02
 clear hnb0
 replace hx0 := hidI hx0
 go_enter Tryz.func6, Tryz.ntmps6
 go_wp2_with fail
 rw [← hx0.out]
 refine (szGraph_any b0 r0 s0 a0 len0 cap0 1048576 m0 (by omega) (by omega)).mono ?_
 rw [if_neg (by omega)]
 rintro e w1 ⟨rfl, hbn1⟩
 have hb1 := hy0.trans (hbn1.mono hy0.size)
 go_wp2_with fail
 refine (szSS_law w1 _ z1 _ (hd1.out.below hb1) (by omega) (by omega)).mono ?_
 rw [if_pos (by have := hbig.out; omega)]
 rintro e wz ⟨rfl, rfl⟩
 go_wp2
 go_ret
 exact ⟨rfl, hb1⟩
set_option maxHeartbeats 3200000 in
theorem walk0 (w : World) (r0 s0 : Int) (v0 : Value) (es0 : List Ed) (br0 : -9223372036854775808 ≤ r0 ∧ r0 ≤ 9223372036854775807) (bs0 : -9223372036854775808 ≤ s0 ∧ s0 ≤ 9223372036854775807) (h0 : ReadE w.heap.size w v0 es0) (i0 : InE es0) (v1 : Value) (z1 : List (List Int)) (h1 : ReadSS w.heap.size w v1 z1) (i1 : ∀ zs ∈ z1, InR zs) (lw : es0.length + (z1.length + sumN (z1.map List.length)) ≤ 1048576) (lg : es0.length ≤ 1048576) :
 Calls Tryz.prog 6 #[.agg #[.int .i64 r0, .int .i64 s0, v0], v1] w fun e w' => e = .returned (.bool true) ∧ Below w.heap.size w w' := by
 obtain ⟨ad0, cap0, rfl, hnc0⟩ := h0.form
 have hr0 := hidI h0
 clear h0 hnc0
 have hr1 := hidI h1
 have hd1 := hidI h1.heads
 obtain ⟨_, ad1, cap1, rfl, hq1, hq2⟩ := h1
 clear hq1 hq2
 replace i1 := hidI i1
 have hzl1 := hidI (words_le (zss := z1) (by omega))
 replace i0 := hidI i0
 obtain ⟨F0, hF0⟩ := exq (geB r0 s0 es0 z1)
 have hne0 : (F0 != F0) = false := by simp
 have heq0 : (F0 == F0) = true := by simp
 replace hF0 := hidI hF0
 have hbw := Below.refl w.heap.size w
 obtain ⟨w1', hw1⟩ : ∃ z, z = w.alloc (.cells #[.int .i64 r0, .int .i64 s0, .slice ad0 es0.length cap0] 36) := ⟨_, rfl⟩
 have hbn : Below w.heap.size w w1' := by rw [hw1]; exact (Below.refl _ _).alloc (Nat.le_refl _) _
 have hlt1 : w.heap.size < w1'.heap.size := by rw [hw1]; simp
 have hnb : w1'.heap[w.heap.size]? = some (.cells #[.int .i64 r0, .int .i64 s0, .slice ad0 es0.length cap0] 36 (0, 0)) := by rw [hw1]; exact heap_alloc_new _ _
 replace hw1 := hidI hw1
 have hb1 := hbw.trans (hbn.mono hbw.size)
 have hs1 := hbn.size
 clear hbn
 have ca00 : w1'.cell? ⟨w.heap.size, 0, none⟩ = some (.int .i64 r0) := by simpa using cell_of_heap hnb 0
 have ca01 : w1'.cell? ⟨w.heap.size, 1, none⟩ = some (.int .i64 s0) := by simpa using cell_of_heap hnb 1
 have ca02 : w1'.cell? ⟨w.heap.size, 2, none⟩ = some (.slice ad0 es0.length cap0) := by simpa using cell_of_heap hnb 2
 clear hnb
 go_enter Tryz.func6, Tryz.ntmps6
 go_wp2_with fail
 try rw [← hw1.out]
 refine (szGraph_any w1' r0 s0 _ es0.length cap0 1048576 (by omega) (by omega) (by omega)).mono ?_
 rw [if_neg (by omega)]
 rintro e w2' ⟨rfl, hbn⟩
 have hb2 := hb1.trans (hbn.mono hb1.size)
 have hs2 := hbn.size
 replace ca00 := (hbn.cell (p := (⟨w.heap.size, 0, none⟩ : Addr)) (show w.heap.size < w1'.heap.size by omega)).trans ca00
 replace ca01 := (hbn.cell (p := (⟨w.heap.size, 1, none⟩ : Addr)) (show w.heap.size < w1'.heap.size by omega)).trans ca01
 replace ca02 := (hbn.cell (p := (⟨w.heap.size, 2, none⟩ : Addr)) (show w.heap.size < w1'.heap.size by omega)).trans ca02
 clear hbn
 have hleft0 : ¬ 1048576 - (es0.length : Int) < 0 := by omega
 go_wp2_with fail
 refine (szSS_law w2' _ z1 _ (hd1.out.below hb2) (by omega) (by omega)).mono ?_
 rw [if_neg (by omega)]
 rintro e wz ⟨rfl, rfl⟩
 have hleftv0 : ¬ (1048576 - (es0.length : Int) - ((z1.length : Int) + (sumN (z1.map List.length) : Nat))) < 0 := by omega
 go_wp2_with fail
 refine (toGraph_any w2' r0 s0 _ es0.length (flatE es0) ((hr0.out.below hb2).mono hb2.size) (by omega)).mono ?_
 rintro e w3' ⟨u0a, u0c, rfl, hrow, hbn⟩
 have hb3 := hb2.trans (hbn.mono hb2.size)
 have hs3 := hbn.size
 replace ca00 := (hbn.cell (p := (⟨w.heap.size, 0, none⟩ : Addr)) (show w.heap.size < w2'.heap.size by omega)).trans ca00
 replace ca01 := (hbn.cell (p := (⟨w.heap.size, 1, none⟩ : Addr)) (show w.heap.size < w2'.heap.size by omega)).trans ca01
 replace ca02 := (hbn.cell (p := (⟨w.heap.size, 2, none⟩ : Addr)) (show w.heap.size < w2'.heap.size by omega)).trans ca02
 clear hbn
 have hu0 := hidI hrow
 clear hrow
 go_wp2_with fail
 refine (toSS_any w3' _ z1 ((hr1.out.below hb3).mono hb3.size) (by omega) hzl1.out).mono ?_
 rintro e w4' ⟨u1, u1u, rfl, hrow, hbn⟩
 have hb4 := hb3.trans (hbn.mono hb3.size)
 have hs4 := hbn.size
 replace hu0 := hidI (hu0.out.below hbn (by omega))
 replace ca00 := (hbn.cell (p := (⟨w.heap.size, 0, none⟩ : Addr)) (show w.heap.size < w3'.heap.size by omega)).trans ca00
 replace ca01 := (hbn.cell (p := (⟨w.heap.size, 1, none⟩ : Addr)) (show w.heap.size < w3'.heap.size by omega)).trans ca01
 replace ca02 := (hbn.cell (p := (⟨w.heap.size, 2, none⟩ : Addr)) (show w.heap.size < w3'.heap.size by omega)).trans ca02
 clear hbn
 have hu1 := hidI hrow
 clear hrow
 go_wp2_with fail
 refine (specGen w4' r0 s0 _ es0 _ z1 (hu0.out.read.mono (by omega)) (hu1.out.read.mono (by omega)) bs0 (by omega) (by unfold totL; omega)).mono ?_
 intro e w5' hpost
 rw [← hF0.out] at hpost
 obtain ⟨rfl, hbn⟩ := hpost
 have hb5 := hb4.trans (hbn.mono hb4.size)
 have hs5 := hbn.size
 replace hu0 := hidI (hu0.out.below hbn (by omega))
 replace hu1 := hidI (hu1.out.below hbn (by omega))
 replace ca00 := (hbn.cell (p := (⟨w.heap.size, 0, none⟩ : Addr)) (show w.heap.size < w4'.heap.size by omega)).trans ca00
 replace ca01 := (hbn.cell (p := (⟨w.heap.size, 1, none⟩ : Addr)) (show w.heap.size < w4'.heap.size by omega)).trans ca01
 replace ca02 := (hbn.cell (p := (⟨w.heap.size, 2, none⟩ : Addr)) (show w.heap.size < w4'.heap.size by omega)).trans ca02
 clear hbn
 clear hu0
 clear hu1
 go_wp2_with fail
 refine (toGraph_any w5' r0 s0 _ es0.length (flatE es0) ((hr0.out.below hb5).mono hb5.size) (by omega)).mono ?_
 rintro e w6' ⟨x0a, x0c, rfl, hrow, hbn⟩
 have hb6 := hb5.trans (hbn.mono hb5.size)
 have hs6 := hbn.size
 replace ca00 := (hbn.cell (p := (⟨w.heap.size, 0, none⟩ : Addr)) (show w.heap.size < w5'.heap.size by omega)).trans ca00
 replace ca01 := (hbn.cell (p := (⟨w.heap.size, 1, none⟩ : Addr)) (show w.heap.size < w5'.heap.size by omega)).trans ca01
 replace ca02 := (hbn.cell (p := (⟨w.heap.size, 2, none⟩ : Addr)) (show w.heap.size < w5'.heap.size by omega)).trans ca02
 clear hbn
 have hx0 := hidI hrow
 clear hrow
 have da00_7 : ∀ o : Obj, (w6'.alloc o).cell? ⟨w.heap.size, 0, none⟩ = some (.int .i64 r0) := fun o => (((Below.refl w6'.heap.size w6').alloc (Nat.le_refl _) o).cell (p := (⟨w.heap.size, 0, none⟩ : Addr)) (show w.heap.size < w6'.heap.size by omega)).trans ca00
 have da01_7 : ∀ o : Obj, (w6'.alloc o).cell? ⟨w.heap.size, 1, none⟩ = some (.int .i64 s0) := fun o => (((Below.refl w6'.heap.size w6').alloc (Nat.le_refl _) o).cell (p := (⟨w.heap.size, 1, none⟩ : Addr)) (show w.heap.size < w6'.heap.size by omega)).trans ca01
 have da02_7 : ∀ o : Obj, (w6'.alloc o).cell? ⟨w.heap.size, 2, none⟩ = some (.slice ad0 es0.length cap0) := fun o => (((Below.refl w6'.heap.size w6').alloc (Nat.le_refl _) o).cell (p := (⟨w.heap.size, 2, none⟩ : Addr)) (show w.heap.size < w6'.heap.size by omega)).trans ca02
 obtain ⟨w7', hw7⟩ : ∃ z, z = w6'.alloc (.cells #[.int .i64 r0, .int .i64 s0, .slice x0a es0.length x0c] 26) := ⟨_, rfl⟩
 have hbn : Below w6'.heap.size w6' w7' := by rw [hw7]; exact (Below.refl _ _).alloc (Nat.le_refl _) _
 have hlt7 : w6'.heap.size < w7'.heap.size := by rw [hw7]; simp
 have hnb : w7'.heap[w6'.heap.size]? = some (.cells #[.int .i64 r0, .int .i64 s0, .slice x0a es0.length x0c] 26 (0, 0)) := by rw [hw7]; exact heap_alloc_new _ _
 replace hw7 := hidI hw7
 have hb7 := hb6.trans (hbn.mono hb6.size)
 have hs7 := hbn.size
 replace hx0 := hidI (hx0.out.below hbn (by omega))
 replace ca00 := (hbn.cell (p := (⟨w.heap.size, 0, none⟩ : Addr)) (show w.heap.size < w6'.heap.size by omega)).trans ca00
 replace ca01 := (hbn.cell (p := (⟨w.heap.size, 1, none⟩ : Addr)) (show w.heap.size < w6'.heap.size by omega)).trans ca01
 replace ca02 := (hbn.cell (p := (⟨w.heap.size, 2, none⟩ : Addr)) (show w.heap.size < w6'.heap.size by omega)).trans ca02
 clear hbn
 have cx00 : w7'.cell? ⟨w6'.heap.size, 0, none⟩ = some (.int .i64 r0) := by simpa using cell_of_heap hnb 0
 have cx01 : w7'.cell? ⟨w6'.heap.size, 1, none⟩ = some (.int .i64 s0) := by simpa using cell_of_heap hnb 1
 have cx02 : w7'.cell? ⟨w6'.heap.size, 2, none⟩ = some (.slice x0a es0.length x0c) := by simpa using cell_of_heap hnb 2
 clear hnb
 go_wp2_with fail
 try rw [← hw7.out]
 clear da00_7 da01_7 da02_7
 refine (toSS_any w7' _ z1 ((hr1.out.below hb7).mono hb7.size) (by omega) hzl1.out).mono ?_
 rintro e w8' ⟨x1, x1u, rfl, hrow, hbn⟩
 have hb8 := hb7.trans (hbn.mono hb7.size)
 have hs8 := hbn.size
 replace hx0 := hidI (hx0.out.below hbn (by omega))
 replace ca00 := (hbn.cell (p := (⟨w.heap.size, 0, none⟩ : Addr)) (show w.heap.size < w7'.heap.size by omega)).trans ca00
 replace ca01 := (hbn.cell (p := (⟨w.heap.size, 1, none⟩ : Addr)) (show w.heap.size < w7'.heap.size by omega)).trans ca01
 replace ca02 := (hbn.cell (p := (⟨w.heap.size, 2, none⟩ : Addr)) (show w.heap.size < w7'.heap.size by omega)).trans ca02
 replace cx00 := (hbn.cell (p := (⟨w6'.heap.size, 0, none⟩ : Addr)) (show w6'.heap.size < w7'.heap.size by omega)).trans cx00
 replace cx01 := (hbn.cell (p := (⟨w6'.heap.size, 1, none⟩ : Addr)) (show w6'.heap.size < w7'.heap.size by omega)).trans cx01
 replace cx02 := (hbn.cell (p := (⟨w6'.heap.size, 2, none⟩ : Addr)) (show w6'.heap.size < w7'.heap.size by omega)).trans cx02
 clear hbn
 have hx1 := hidI hrow
 clear hrow
 go_wp2_with fail
 refine (progGen w8' r0 s0 _ es0 _ z1 (hx0.out.read.mono (by omega)) (hx1.out.read.mono (by omega)) bs0 (by omega) (by unfold totL; omega)).mono ?_
 intro e w9' hpost
 rw [← hF0.out] at hpost
 obtain ⟨rfl, hbn⟩ := hpost
 have hb9 := hb8.trans (hbn.mono hb8.size)
 have hs9 := hbn.size
 replace hx0 := hidI (hx0.out.below hbn (by omega))
 replace hx1 := hidI (hx1.out.below hbn (by omega))
 replace ca00 := (hbn.cell (p := (⟨w.heap.size, 0, none⟩ : Addr)) (show w.heap.size < w8'.heap.size by omega)).trans ca00
 replace ca01 := (hbn.cell (p := (⟨w.heap.size, 1, none⟩ : Addr)) (show w.heap.size < w8'.heap.size by omega)).trans ca01
 replace ca02 := (hbn.cell (p := (⟨w.heap.size, 2, none⟩ : Addr)) (show w.heap.size < w8'.heap.size by omega)).trans ca02
 replace cx00 := (hbn.cell (p := (⟨w6'.heap.size, 0, none⟩ : Addr)) (show w6'.heap.size < w8'.heap.size by omega)).trans cx00
 replace cx01 := (hbn.cell (p := (⟨w6'.heap.size, 1, none⟩ : Addr)) (show w6'.heap.size < w8'.heap.size by omega)).trans cx01
 replace cx02 := (hbn.cell (p := (⟨w6'.heap.size, 2, none⟩ : Addr)) (show w6'.heap.size < w8'.heap.size by omega)).trans cx02
 clear hbn
 go_wp2_with fail
 have hdr := below_dn (Below.refl w9'.heap.size w9') 1
 have hcg := toGraph_any w9'.drew r0 s0 _ es0.length (flatE es0) (((hr0.out.below hb9).below (hdr.mono hb9.size)).mono hb9.size) (by omega)
 go_region_held3 (fun z => z.cell? ⟨w6'.heap.size, 0, none⟩ = some (.int .i64 r0) ∧ z.cell? ⟨w6'.heap.size, 1, none⟩ = some (.int .i64 s0) ∧ z.cell? ⟨w6'.heap.size, 2, none⟩ = some (.slice x0a es0.length x0c) ∧ z.cell? ⟨w.heap.size, 0, none⟩ = some (.int .i64 r0) ∧ z.cell? ⟨w.heap.size, 1, none⟩ = some (.int .i64 s0) ∧ z.cell? ⟨w.heap.size, 2, none⟩ = some (.slice ad0 es0.length cap0)) (first | ((repeat' apply And.intro) <;> assumption) | go_keep) (first | (go_at_call 17; (with_reducible refine hcg.mono ?_); rintro e w10' ⟨ta, tc, rfl, hrow, hbn⟩; replace hbn := hdr.trans hbn; have hb10 := hb9.trans (hbn.mono hb9.size); have hs10 := hbn.size; replace hx0 := hidI (hx0.out.below hbn (by omega)); replace hx1 := hidI (hx1.out.below hbn (by omega)); replace ca00 := (hbn.cell (p := (⟨w.heap.size, 0, none⟩ : Addr)) (show w.heap.size < w9'.heap.size by omega)).trans ca00; replace ca01 := (hbn.cell (p := (⟨w.heap.size, 1, none⟩ : Addr)) (show w.heap.size < w9'.heap.size by omega)).trans ca01; replace ca02 := (hbn.cell (p := (⟨w.heap.size, 2, none⟩ : Addr)) (show w.heap.size < w9'.heap.size by omega)).trans ca02; replace cx00 := (hbn.cell (p := (⟨w6'.heap.size, 0, none⟩ : Addr)) (show w6'.heap.size < w9'.heap.size by omega)).trans cx00; replace cx01 := (hbn.cell (p := (⟨w6'.heap.size, 1, none⟩ : Addr)) (show w6'.heap.size < w9'.heap.size by omega)).trans cx01; replace cx02 := (hbn.cell (p := (⟨w6'.heap.size, 2, none⟩ : Addr)) (show w6'.heap.size < w9'.heap.size by omega)).trans cx02; have hce := eqGraph_same w10' r0 s0 _ _ es0.length (flatE es0) (hx0.out.read.mono (by omega)) (hrow.read.mono (by omega)); clear hbn hcg) | (go_at_call 20; (with_reducible refine hce.mono ?_); rintro e w11' ⟨rfl, hbn⟩; have hb11 := hb10.trans (hbn.mono hb10.size); have hs11 := hbn.size; replace hx0 := hidI (hx0.out.below hbn (by omega)); replace hx1 := hidI (hx1.out.below hbn (by omega)); replace ca00 := (hbn.cell (p := (⟨w.heap.size, 0, none⟩ : Addr)) (show w.heap.size < w10'.heap.size by omega)).trans ca00; replace ca01 := (hbn.cell (p := (⟨w.heap.size, 1, none⟩ : Addr)) (show w.heap.size < w10'.heap.size by omega)).trans ca01; replace ca02 := (hbn.cell (p := (⟨w.heap.size, 2, none⟩ : Addr)) (show w.heap.size < w10'.heap.size by omega)).trans ca02; replace cx00 := (hbn.cell (p := (⟨w6'.heap.size, 0, none⟩ : Addr)) (show w6'.heap.size < w10'.heap.size by omega)).trans cx00; replace cx01 := (hbn.cell (p := (⟨w6'.heap.size, 1, none⟩ : Addr)) (show w6'.heap.size < w10'.heap.size by omega)).trans cx01; replace cx02 := (hbn.cell (p := (⟨w6'.heap.size, 2, none⟩ : Addr)) (show w6'.heap.size < w10'.heap.size by omega)).trans cx02; clear hbn hce hrow))
 go_wp2_with fail
 refine (toSS_any w11' _ z1 ((hr1.out.below hb11).mono hb11.size) (by omega) hzl1.out).mono ?_
 rintro e w12' ⟨t1, t1u, rfl, hrow, hbn⟩
 have hb12 := hb11.trans (hbn.mono hb11.size)
 have hs12 := hbn.size
 replace hx0 := hidI (hx0.out.below hbn (by omega))
 replace hx1 := hidI (hx1.out.below hbn (by omega))
 replace ca00 := (hbn.cell (p := (⟨w.heap.size, 0, none⟩ : Addr)) (show w.heap.size < w11'.heap.size by omega)).trans ca00
 replace ca01 := (hbn.cell (p := (⟨w.heap.size, 1, none⟩ : Addr)) (show w.heap.size < w11'.heap.size by omega)).trans ca01
 replace ca02 := (hbn.cell (p := (⟨w.heap.size, 2, none⟩ : Addr)) (show w.heap.size < w11'.heap.size by omega)).trans ca02
 replace cx00 := (hbn.cell (p := (⟨w6'.heap.size, 0, none⟩ : Addr)) (show w6'.heap.size < w11'.heap.size by omega)).trans cx00
 replace cx01 := (hbn.cell (p := (⟨w6'.heap.size, 1, none⟩ : Addr)) (show w6'.heap.size < w11'.heap.size by omega)).trans cx01
 replace cx02 := (hbn.cell (p := (⟨w6'.heap.size, 2, none⟩ : Addr)) (show w6'.heap.size < w11'.heap.size by omega)).trans cx02
 clear hbn
 have ht1 := hidI hrow
 clear hrow
 go_wp2_with fail
 refine (eqSS_law w12' x1 t1 z1 (hx1.out.read.mono (by omega)) (ht1.out.read.mono (by omega))).mono ?_
 rintro e w13' ⟨rfl, hbn, hzz⟩
 clear hzz
 have hb13 := hb12.trans (hbn.mono hb12.size)
 have hs13 := hbn.size
 replace hx0 := hidI (hx0.out.below hbn (by omega))
 replace hx1 := hidI (hx1.out.below hbn (by omega))
 replace ht1 := hidI (ht1.out.below hbn (by omega))
 replace ca00 := (hbn.cell (p := (⟨w.heap.size, 0, none⟩ : Addr)) (show w.heap.size < w12'.heap.size by omega)).trans ca00
 replace ca01 := (hbn.cell (p := (⟨w.heap.size, 1, none⟩ : Addr)) (show w.heap.size < w12'.heap.size by omega)).trans ca01
 replace ca02 := (hbn.cell (p := (⟨w.heap.size, 2, none⟩ : Addr)) (show w.heap.size < w12'.heap.size by omega)).trans ca02
 replace cx00 := (hbn.cell (p := (⟨w6'.heap.size, 0, none⟩ : Addr)) (show w6'.heap.size < w12'.heap.size by omega)).trans cx00
 replace cx01 := (hbn.cell (p := (⟨w6'.heap.size, 1, none⟩ : Addr)) (show w6'.heap.size < w12'.heap.size by omega)).trans cx01
 replace cx02 := (hbn.cell (p := (⟨w6'.heap.size, 2, none⟩ : Addr)) (show w6'.heap.size < w12'.heap.size by omega)).trans cx02
 clear hbn
 clear ht1
 go_wp2_with fail
 go_ret
 exact ⟨rfl, hb13⟩
theorem walk (W : World) (r0 s0 : Int) (a0 : Option Addr) (len0 cap0 : Nat) (es0 : List Ed) (a1 : Option Addr) (len1 cap1 : Nat) (z1 : List (List Int)) (u0 : (Lit.int .i64 r0).wf = true) (y0 : (Lit.int .i64 s0).wf = true) (w0 : IsRowE W a0 len0 cap0 es0) (w1 : IsRowW W a1 len1 cap1 z1) :
 Calls Tryz.prog 6 #[.agg #[.int .i64 r0, .int .i64 s0, .slice a0 len0 cap0], .slice a1 len1 cap1] W fun e w' => e = .returned (.bool true) ∧ Below W.heap.size W w' := by
 obtain ⟨e0, i0, m0⟩ := w0.len
 by_cases s0_ : 1048576 < len0
 · exact walk0_big0 W r0 s0 a0 len0 cap0 a1 len1 cap1 z1 w1.heads m0 s0_
 by_cases s1_ : 1048576 < len0 + (z1.length + sumN (z1.map List.length))
 · exact walk0_big1 W r0 s0 a0 len0 cap0 a1 len1 cap1 z1 w1.heads m0 (by omega) s1_
 obtain ⟨r1, i1, e1⟩ := w1.read (by omega)
 exact walk0 W r0 s0 _ es0 (wf_i64 u0) (wf_i64 y0) (w0.read (by omega)) i0 _ _ r1 i1 (by omega) (by omega)
set_option maxRecDepth 100000 in
theorem lifted (os : Os) (started : os.Started) (H : Type) (enc : TypeId × Value → H) :
 ReturnsInHanded {} Tryz.checked os 6 .any (Rows.fnExactGeneratesAllSpec.pre6 enc Tryz.prog Tryz.f6 Rows.fnExactGeneratesAllRow.domain false) (Rows.fnExactGeneratesAllSpec.post enc Tryz.prog Tryz.f6 false true false false) := by
 refine returnsInHanded_of_change (C := Tryz.checked) own started (by kernel_rfl) Tryz.func6
  (ChangeSpec.witness6 (enc := enc) (C := Tryz.checked) false ⟨#[], #[.agg #[.int .i64 0, .int .i64 0, .slice none 0 0], .slice none 0 0], []⟩ 8 (by kernel_rfl) (by kernel_rfl) (by kernel_rfl) (by kernel_rfl)) ?_
 intro W base args ds gs before hval0 hW hcnd _
 have hval : ∀ (j : Nat) t v, Tryz.f6.params[j]? = some t → args[j]? = some v → Value.okWide Tryz.prog W .any base t v := hval0
 have hW' := hW
 obtain ⟨p, q, hA0, hV, rfl, hfz, hnd⟩ := hW
 have hA : DataW.TrodAll enc Tryz.prog W 0 (fun _ => true) true Tryz.f6.params.toList args.toList ds p := hA0
 rw [Tryz.params6] at hA hval
 obtain ⟨v0, vs0, d0, ds0, p0, q0, hargs, rfl, rfl, h0, r0⟩ := trodAll_cons hA
 obtain ⟨v1, vs1, d1, ds1, p1, q1, rfl, rfl, rfl, h1, r1⟩ := trodAll_cons r0
 obtain ⟨rfl, rfl, rfl⟩ := trodAll_nil r1
 obtain rfl : args = #[v0, v1] := by cases args; simp_all
 obtain ⟨rfl, rfl⟩ := trodVars_none hV
 have k0 := h0
 have lt0 : ∀ x ∈ p0, x.block < W.heap.size := by obtain ⟨m, hm⟩ := k0; exact DataW.trod_lt m _ _ _ hm
 obtain ⟨gr0, gs0, a0, len0, cap0, es0, rfl, u0, y0, w0⟩ := open_graph (hval 0 36 v0 rfl rfl) h0
 have k1 := h1
 have lt1 : ∀ x ∈ p1, x.block < W.heap.size := by obtain ⟨m, hm⟩ := k1; exact DataW.trod_lt m _ _ _ hm
 obtain ⟨a1, len1, cap1, z1, rfl, w1⟩ := open_words (hval 1 32 v1 rfl rfl) h1
 clear hA0 hval0
 refine (walk W gr0 gs0 a0 len0 cap0 es0 a1 len1 cap1 z1 u0 y0 w0 w1).mono fun e W' ⟨he, hg⟩ => ?_
 subst he
 exact ⟨_, rfl, _, _, _, [], _, [], hW', trodAll_mk1 (shut_bool Tryz.underlying4 _), (trodAll_cons_mk (Below.trod laidOut (by kernel_rfl) (of_decide_eq_true (by kernel_rfl)) k0 hg lt0) (trodAll_cons_mk (Below.trod laidOut (by kernel_rfl) (of_decide_eq_true (by kernel_rfl)) k1 hg lt1) trodAll_mk0)), rfl, hg.frame _, fun h => by cases h⟩
theorem over : Rows.fnExactGeneratesAllRow.holds Tryz.pinned (OpenSpec.ofChange Rows.fnExactGeneratesAllSpec) :=
 OpenClaim.holds_of_wide 6 Tryz.f6 rfl rfl rfl rfl rfl rfl rfl ⟨rfl, rfl, rfl, rfl, rfl⟩ rfl rfl rfl rfl rfl (by kernel_rfl) Tryz.func6 (by kernel_rfl)
  (of_decide_eq_true (by kernel_rfl)) (by unfold Func.isWrapper; first | (rw [if_pos (by decide +kernel)]; kernel_rfl) | (rw [if_neg (by decide +kernel)]; exact ⟨rfl, rfl⟩))
  (fun os started H enc _ => lifted os started H enc)
theorem proved : Rows.FnExactGeneratesAllSaid := over
#print axioms proved
end Go.Proofs.YtpjlamnjiilgbaaGreat.fnExactGeneratesAll
