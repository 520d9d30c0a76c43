import Derived.Test.YtjnhhhnehkmfmaaGreatQB
import Derived.Test.YtjnhhhnehkmfmaaGreatZS
import Derived.WalkKit
import Derived.ProofKit
import Derived.OpenShut
import Derived.ShutString
import Derived.Below
namespace Go.Proofs.YtjnhhhnehkmfmaaGreat.fnExactSubgroupOf
open Go.ChangeShapes Go.WideShapes Go.ChangeAt Go.RowKit
open Go.ChangeMaps (open_string shut_string)
set_option linter.unusedVariables false
theorem own : ownKnob Tryz.prog.godebug = none := by kernel_rfl
theorem laidOut : laidOutB Tryz.prog = true := by kernel_rfl
theorem walk0_big1 (w : World) (a0 : Int) (a1 : Option Addr) (len1 cap1 : Nat) (z1 : List (List Int)) (hd1 : HeadsW w (.slice a1 len1 cap1) (z1.map List.length)) (hbig : 1048576 < (z1.length + sumN (z1.map List.length))) :
 Calls Tryz.prog 3 #[.int .i64 a0, .slice a1 len1 cap1] w fun e w' => e = .returned (.bool true) ∧ Below w.heap.size w w' := by
 replace hbig := hidI hbig
 replace hd1 := hidI hd1
 go_enter Tryz.func3, Tryz.ntmps3
 go_wp2_with fail
 refine (szSS_law w _ z1 1048576 hd1.out (by omega) (by omega)).mono ?_
 rw [if_pos (by have := hbig.out; omega)]
 rintro e wz ⟨rfl, rfl⟩
 go_wp2
 go_ret
 exact ⟨rfl, Below.refl _ _⟩
set_option maxHeartbeats 3200000 in
theorem walk0 (w : World) (a0 : Int) (w0 : -9223372036854775808 ≤ a0 ∧ a0 ≤ 9223372036854775807) (v1 : Value) (z1 : List (List Int)) (h1 : ReadSS w.heap.size w v1 z1) (i1 : ∀ zs ∈ z1, InR zs) (lw : (z1.length + sumN (z1.map List.length)) ≤ 1048576) :
 Calls Tryz.prog 3 #[.int .i64 a0, v1] w fun e w' => e = .returned (.bool true) ∧ Below w.heap.size w w' := by
 have hr1 := hidI h1
 have hd1 := hidI h1.heads
 obtain ⟨_, ad1, cap1, rfl, hq1, hq2⟩ := h1
 clear hq1 hq2
 replace i1 := hidI i1
 have hzl1 := hidI (words_le (zss := z1) (by omega))
 obtain ⟨FR0, hFR0⟩ : ∃ F : Int, F = suR a0 z1 := ⟨_, rfl⟩
 obtain ⟨FS0, hFS0⟩ : ∃ F : Int, F = suS a0 z1 := ⟨_, rfl⟩
 obtain ⟨F0, hF0⟩ : ∃ F : List Ed, F = suE a0 z1 := ⟨_, rfl⟩
 have hfl0 : F0.length ≤ 1000000000 := by rw [hF0]; have := suE_length a0 z1; have := floE_length a0 z1; unfold totL at this; omega
 replace hFR0 := hidI hFR0
 replace hFS0 := hidI hFS0
 replace hF0 := hidI hF0
 obtain ⟨F1, hF1⟩ := exq (arew a0 z1)
 have hne1 : (F1 != F1) = false := by simp
 have heq1 : (F1 == F1) = true := by simp
 replace hF1 := hidI hF1
 have hbw := Below.refl w.heap.size w
 go_enter Tryz.func3, Tryz.ntmps3
 go_wp2_with fail
 refine (szSS_law w _ z1 1048576 hd1.out (by omega) (by omega)).mono ?_
 rw [if_neg (by omega)]
 rintro e wz ⟨rfl, rfl⟩
 have hleftv0 : ¬ (1048576 - ((z1.length : Int) + (sumN (z1.map List.length) : Nat))) < 0 := by omega
 go_wp2_with fail
 refine (toSS_any w _ z1 ((hr1.out.below hbw).mono hbw.size) (by omega) hzl1.out).mono ?_
 rintro e w1' ⟨u1, u1u, rfl, hrow, hbn⟩
 have hb1 := hbw.trans (hbn.mono hbw.size)
 have hs1 := hbn.size
 clear hbn
 have hu1 := hidI hrow
 clear hrow
 go_wp2_with fail
 refine (specSubOf w1' a0 _ z1 (hu1.out.read.mono (by omega)) (by unfold totL; omega)).mono ?_
 intro e w2' hpost
 rw [← hF0.out, ← hFR0.out, ← hFS0.out, ← hF1.out] at hpost
 obtain ⟨m0a, m0c, rfl, hrow0, hbn⟩ := hpost
 have hb2 := hb1.trans (hbn.mono hb1.size)
 have hs2 := hbn.size
 replace hu1 := hidI (hu1.out.below hbn (by omega))
 clear hbn
 have hm0 := hidI hrow0
 clear hrow0
 obtain ⟨w3', hw3⟩ : ∃ z, z = w2'.alloc (.cells #[.int .i64 FR0, .int .i64 FS0, .slice m0a F0.length m0c] 26) := ⟨_, rfl⟩
 have hbn : Below w2'.heap.size w2' w3' := by rw [hw3]; exact (Below.refl _ _).alloc (Nat.le_refl _) _
 have hlt3 : w2'.heap.size < w3'.heap.size := by rw [hw3]; simp
 have hnb : w3'.heap[w2'.heap.size]? = some (.cells #[.int .i64 FR0, .int .i64 FS0, .slice m0a F0.length m0c] 26 (0, 0)) := by rw [hw3]; exact heap_alloc_new _ _
 replace hw3 := hidI hw3
 have hb3 := hb2.trans (hbn.mono hb2.size)
 have hs3 := hbn.size
 replace hu1 := hidI (hu1.out.below hbn (by omega))
 replace hm0 := hidI (hm0.out.below hbn (by omega))
 clear hbn
 have cm00 : w3'.cell? ⟨w2'.heap.size, 0, none⟩ = some (.int .i64 FR0) := by simpa using cell_of_heap hnb 0
 have cm01 : w3'.cell? ⟨w2'.heap.size, 1, none⟩ = some (.int .i64 FS0) := by simpa using cell_of_heap hnb 1
 have cm02 : w3'.cell? ⟨w2'.heap.size, 2, none⟩ = some (.slice m0a F0.length m0c) := by simpa using cell_of_heap hnb 2
 clear hnb
 clear hu1
 go_wp2_with fail
 try rw [← hw3.out]
 refine (toSS_any w3' _ z1 ((hr1.out.below hb3).mono hb3.size) (by omega) hzl1.out).mono ?_
 rintro e w4' ⟨x1, x1u, rfl, hrow, hbn⟩
 have hb4 := hb3.trans (hbn.mono hb3.size)
 have hs4 := hbn.size
 replace hm0 := hidI (hm0.out.below hbn (by omega))
 replace cm00 := (hbn.cell (p := (⟨w2'.heap.size, 0, none⟩ : Addr)) (show w2'.heap.size < w3'.heap.size by omega)).trans cm00
 replace cm01 := (hbn.cell (p := (⟨w2'.heap.size, 1, none⟩ : Addr)) (show w2'.heap.size < w3'.heap.size by omega)).trans cm01
 replace cm02 := (hbn.cell (p := (⟨w2'.heap.size, 2, none⟩ : Addr)) (show w2'.heap.size < w3'.heap.size by omega)).trans cm02
 clear hbn
 have hx1 := hidI hrow
 clear hrow
 go_wp2_with fail
 refine (progSubOf w4' a0 _ z1 (hx1.out.read.mono (by omega)) (by unfold totL; omega)).mono ?_
 intro e w5' hpost
 rw [← hF0.out, ← hFR0.out, ← hFS0.out, ← hF1.out] at hpost
 obtain ⟨g0a, g0c, rfl, hrow0, hbn⟩ := hpost
 have hb5 := hb4.trans (hbn.mono hb4.size)
 have hs5 := hbn.size
 replace hm0 := hidI (hm0.out.below hbn (by omega))
 replace hx1 := hidI (hx1.out.below hbn (by omega))
 replace cm00 := (hbn.cell (p := (⟨w2'.heap.size, 0, none⟩ : Addr)) (show w2'.heap.size < w4'.heap.size by omega)).trans cm00
 replace cm01 := (hbn.cell (p := (⟨w2'.heap.size, 1, none⟩ : Addr)) (show w2'.heap.size < w4'.heap.size by omega)).trans cm01
 replace cm02 := (hbn.cell (p := (⟨w2'.heap.size, 2, none⟩ : Addr)) (show w2'.heap.size < w4'.heap.size by omega)).trans cm02
 clear hbn
 have hg0 := hidI hrow0
 clear hrow0
 have dm00_6 : ∀ o : Obj, (w5'.alloc o).cell? ⟨w2'.heap.size, 0, none⟩ = some (.int .i64 FR0) := fun o => (((Below.refl w5'.heap.size w5').alloc (Nat.le_refl _) o).cell (p := (⟨w2'.heap.size, 0, none⟩ : Addr)) (show w2'.heap.size < w5'.heap.size by omega)).trans cm00
 have dm01_6 : ∀ o : Obj, (w5'.alloc o).cell? ⟨w2'.heap.size, 1, none⟩ = some (.int .i64 FS0) := fun o => (((Below.refl w5'.heap.size w5').alloc (Nat.le_refl _) o).cell (p := (⟨w2'.heap.size, 1, none⟩ : Addr)) (show w2'.heap.size < w5'.heap.size by omega)).trans cm01
 have dm02_6 : ∀ o : Obj, (w5'.alloc o).cell? ⟨w2'.heap.size, 2, none⟩ = some (.slice m0a F0.length m0c) := fun o => (((Below.refl w5'.heap.size w5').alloc (Nat.le_refl _) o).cell (p := (⟨w2'.heap.size, 2, none⟩ : Addr)) (show w2'.heap.size < w5'.heap.size by omega)).trans cm02
 obtain ⟨w6', hw6⟩ : ∃ z, z = w5'.alloc (.cells #[.int .i64 FR0, .int .i64 FS0, .slice g0a F0.length g0c] 26) := ⟨_, rfl⟩
 have hbn : Below w5'.heap.size w5' w6' := by rw [hw6]; exact (Below.refl _ _).alloc (Nat.le_refl _) _
 have hlt6 : w5'.heap.size < w6'.heap.size := by rw [hw6]; simp
 have hnb : w6'.heap[w5'.heap.size]? = some (.cells #[.int .i64 FR0, .int .i64 FS0, .slice g0a F0.length g0c] 26 (0, 0)) := by rw [hw6]; exact heap_alloc_new _ _
 replace hw6 := hidI hw6
 have hb6 := hb5.trans (hbn.mono hb5.size)
 have hs6 := hbn.size
 replace hm0 := hidI (hm0.out.below hbn (by omega))
 replace hx1 := hidI (hx1.out.below hbn (by omega))
 replace hg0 := hidI (hg0.out.below hbn (by omega))
 replace cm00 := (hbn.cell (p := (⟨w2'.heap.size, 0, none⟩ : Addr)) (show w2'.heap.size < w5'.heap.size by omega)).trans cm00
 replace cm01 := (hbn.cell (p := (⟨w2'.heap.size, 1, none⟩ : Addr)) (show w2'.heap.size < w5'.heap.size by omega)).trans cm01
 replace cm02 := (hbn.cell (p := (⟨w2'.heap.size, 2, none⟩ : Addr)) (show w2'.heap.size < w5'.heap.size by omega)).trans cm02
 clear hbn
 have cg00 : w6'.cell? ⟨w5'.heap.size, 0, none⟩ = some (.int .i64 FR0) := by simpa using cell_of_heap hnb 0
 have cg01 : w6'.cell? ⟨w5'.heap.size, 1, none⟩ = some (.int .i64 FS0) := by simpa using cell_of_heap hnb 1
 have cg02 : w6'.cell? ⟨w5'.heap.size, 2, none⟩ = some (.slice g0a F0.length g0c) := by simpa using cell_of_heap hnb 2
 clear hnb
 go_wp2_with fail
 try rw [← hw6.out]
 clear dm00_6 dm01_6 dm02_6
 refine (eqGraph_same w6' FR0 FS0 _ _ F0.length (flatE F0) (hg0.out.read.mono (by omega)) (hm0.out.read.mono (by omega))).mono ?_
 rintro e w7' ⟨rfl, hbn⟩
 have hb7 := hb6.trans (hbn.mono hb6.size)
 have hs7 := hbn.size
 replace hm0 := hidI (hm0.out.below hbn (by omega))
 replace hx1 := hidI (hx1.out.below hbn (by omega))
 replace hg0 := hidI (hg0.out.below hbn (by omega))
 replace cm00 := (hbn.cell (p := (⟨w2'.heap.size, 0, none⟩ : Addr)) (show w2'.heap.size < w6'.heap.size by omega)).trans cm00
 replace cm01 := (hbn.cell (p := (⟨w2'.heap.size, 1, none⟩ : Addr)) (show w2'.heap.size < w6'.heap.size by omega)).trans cm01
 replace cm02 := (hbn.cell (p := (⟨w2'.heap.size, 2, none⟩ : Addr)) (show w2'.heap.size < w6'.heap.size by omega)).trans cm02
 replace cg00 := (hbn.cell (p := (⟨w5'.heap.size, 0, none⟩ : Addr)) (show w5'.heap.size < w6'.heap.size by omega)).trans cg00
 replace cg01 := (hbn.cell (p := (⟨w5'.heap.size, 1, none⟩ : Addr)) (show w5'.heap.size < w6'.heap.size by omega)).trans cg01
 replace cg02 := (hbn.cell (p := (⟨w5'.heap.size, 2, none⟩ : Addr)) (show w5'.heap.size < w6'.heap.size by omega)).trans cg02
 clear hbn
 go_wp2_with fail
 refine (toSS_any w7' _ z1 ((hr1.out.below hb7).mono hb7.size) (by omega) hzl1.out).mono ?_
 rintro e w8' ⟨t1, t1u, rfl, hrow, hbn⟩
 have hb8 := hb7.trans (hbn.mono hb7.size)
 have hs8 := hbn.size
 replace hm0 := hidI (hm0.out.below hbn (by omega))
 replace hx1 := hidI (hx1.out.below hbn (by omega))
 replace hg0 := hidI (hg0.out.below hbn (by omega))
 replace cm00 := (hbn.cell (p := (⟨w2'.heap.size, 0, none⟩ : Addr)) (show w2'.heap.size < w7'.heap.size by omega)).trans cm00
 replace cm01 := (hbn.cell (p := (⟨w2'.heap.size, 1, none⟩ : Addr)) (show w2'.heap.size < w7'.heap.size by omega)).trans cm01
 replace cm02 := (hbn.cell (p := (⟨w2'.heap.size, 2, none⟩ : Addr)) (show w2'.heap.size < w7'.heap.size by omega)).trans cm02
 replace cg00 := (hbn.cell (p := (⟨w5'.heap.size, 0, none⟩ : Addr)) (show w5'.heap.size < w7'.heap.size by omega)).trans cg00
 replace cg01 := (hbn.cell (p := (⟨w5'.heap.size, 1, none⟩ : Addr)) (show w5'.heap.size < w7'.heap.size by omega)).trans cg01
 replace cg02 := (hbn.cell (p := (⟨w5'.heap.size, 2, none⟩ : Addr)) (show w5'.heap.size < w7'.heap.size by omega)).trans cg02
 clear hbn
 have ht1 := hidI hrow
 clear hrow
 go_wp2_with fail
 refine (eqSS_law w8' x1 t1 z1 (hx1.out.read.mono (by omega)) (ht1.out.read.mono (by omega))).mono ?_
 rintro e w9' ⟨rfl, hbn, hzz⟩
 clear hzz
 have hb9 := hb8.trans (hbn.mono hb8.size)
 have hs9 := hbn.size
 replace hm0 := hidI (hm0.out.below hbn (by omega))
 replace hx1 := hidI (hx1.out.below hbn (by omega))
 replace hg0 := hidI (hg0.out.below hbn (by omega))
 replace ht1 := hidI (ht1.out.below hbn (by omega))
 replace cm00 := (hbn.cell (p := (⟨w2'.heap.size, 0, none⟩ : Addr)) (show w2'.heap.size < w8'.heap.size by omega)).trans cm00
 replace cm01 := (hbn.cell (p := (⟨w2'.heap.size, 1, none⟩ : Addr)) (show w2'.heap.size < w8'.heap.size by omega)).trans cm01
 replace cm02 := (hbn.cell (p := (⟨w2'.heap.size, 2, none⟩ : Addr)) (show w2'.heap.size < w8'.heap.size by omega)).trans cm02
 replace cg00 := (hbn.cell (p := (⟨w5'.heap.size, 0, none⟩ : Addr)) (show w5'.heap.size < w8'.heap.size by omega)).trans cg00
 replace cg01 := (hbn.cell (p := (⟨w5'.heap.size, 1, none⟩ : Addr)) (show w5'.heap.size < w8'.heap.size by omega)).trans cg01
 replace cg02 := (hbn.cell (p := (⟨w5'.heap.size, 2, none⟩ : Addr)) (show w5'.heap.size < w8'.heap.size by omega)).trans cg02
 clear hbn
 clear ht1
 go_wp2_with fail
 refine (markSS_any w9' (w3'.heap.size) (w4'.heap.size) x1 _ z1 1 hx1.out (by omega) (by omega)).mono ?_
 rintro e w10' ⟨rfl, hm, ho⟩
 have hb10 := hb9.trans (ho.below (by omega))
 have hs10 : w9'.heap.size ≤ w10'.heap.size := by have := ho.size; omega
 replace hm0 := hidI (hm0.out.only ho (by omega))
 replace hg0 := hidI (hg0.out.only ho (by omega))
 replace cm00 := (ho.cell (p := (⟨w2'.heap.size, 0, none⟩ : Addr)) (show w2'.heap.size < w3'.heap.size ∨ w4'.heap.size ≤ w2'.heap.size by omega)).trans cm00
 replace cm01 := (ho.cell (p := (⟨w2'.heap.size, 1, none⟩ : Addr)) (show w2'.heap.size < w3'.heap.size ∨ w4'.heap.size ≤ w2'.heap.size by omega)).trans cm01
 replace cm02 := (ho.cell (p := (⟨w2'.heap.size, 2, none⟩ : Addr)) (show w2'.heap.size < w3'.heap.size ∨ w4'.heap.size ≤ w2'.heap.size by omega)).trans cm02
 replace cg00 := (ho.cell (p := (⟨w5'.heap.size, 0, none⟩ : Addr)) (show w5'.heap.size < w3'.heap.size ∨ w4'.heap.size ≤ w5'.heap.size by omega)).trans cg00
 replace cg01 := (ho.cell (p := (⟨w5'.heap.size, 1, none⟩ : Addr)) (show w5'.heap.size < w3'.heap.size ∨ w4'.heap.size ≤ w5'.heap.size by omega)).trans cg01
 replace cg02 := (ho.cell (p := (⟨w5'.heap.size, 2, none⟩ : Addr)) (show w5'.heap.size < w3'.heap.size ∨ w4'.heap.size ≤ w5'.heap.size by omega)).trans cg02
 clear ho
 clear hm hx1
 have hkk : decide ((1 + (sumN (z1.map List.length) : Nat)) < 0) = false := by rw [decide_eq_false_iff_not]; omega
 have hkk2 : ¬ (1 + (sumN (z1.map List.length) : Nat)) < 0 := by omega
 go_wp2_with fail
 refine (eqGraph_same w10' FR0 FS0 _ _ F0.length (flatE F0) (hg0.out.read.mono (by omega)) (hm0.out.read.mono (by omega))).mono ?_
 rintro e w11' ⟨rfl, hbn⟩
 have hb11 := hb10.trans (hbn.mono hb10.size)
 have hs11 := hbn.size
 replace hm0 := hidI (hm0.out.below hbn (by omega))
 replace hg0 := hidI (hg0.out.below hbn (by omega))
 replace cm00 := (hbn.cell (p := (⟨w2'.heap.size, 0, none⟩ : Addr)) (show w2'.heap.size < w10'.heap.size by omega)).trans cm00
 replace cm01 := (hbn.cell (p := (⟨w2'.heap.size, 1, none⟩ : Addr)) (show w2'.heap.size < w10'.heap.size by omega)).trans cm01
 replace cm02 := (hbn.cell (p := (⟨w2'.heap.size, 2, none⟩ : Addr)) (show w2'.heap.size < w10'.heap.size by omega)).trans cm02
 replace cg00 := (hbn.cell (p := (⟨w5'.heap.size, 0, none⟩ : Addr)) (show w5'.heap.size < w10'.heap.size by omega)).trans cg00
 replace cg01 := (hbn.cell (p := (⟨w5'.heap.size, 1, none⟩ : Addr)) (show w5'.heap.size < w10'.heap.size by omega)).trans cg01
 replace cg02 := (hbn.cell (p := (⟨w5'.heap.size, 2, none⟩ : Addr)) (show w5'.heap.size < w10'.heap.size by omega)).trans cg02
 clear hbn
 go_wp2_with fail
 refine (markGraph_any w11' (w4'.heap.size) (w5'.heap.size) FR0 FS0 _ F0.length (flatE F0) 1 hg0.out (by omega) (by omega) (by omega) (by omega)).mono ?_
 rintro e w12' ⟨rfl, hm, wm, hbn, ho⟩
 have hbm12 := hb11.trans (hbn.mono hb11.size)
 have hsm12 := hbn.size
 replace hm0 := hidI ((hm0.out.below hbn (by omega)).only ho (by omega))
 replace cm00 := (ho.cell (p := (⟨w2'.heap.size, 0, none⟩ : Addr)) (show w2'.heap.size < w4'.heap.size ∨ w5'.heap.size ≤ w2'.heap.size by omega)).trans ((hbn.cell (p := (⟨w2'.heap.size, 0, none⟩ : Addr)) (show w2'.heap.size < w11'.heap.size by omega)).trans cm00)
 replace cm01 := (ho.cell (p := (⟨w2'.heap.size, 1, none⟩ : Addr)) (show w2'.heap.size < w4'.heap.size ∨ w5'.heap.size ≤ w2'.heap.size by omega)).trans ((hbn.cell (p := (⟨w2'.heap.size, 1, none⟩ : Addr)) (show w2'.heap.size < w11'.heap.size by omega)).trans cm01)
 replace cm02 := (ho.cell (p := (⟨w2'.heap.size, 2, none⟩ : Addr)) (show w2'.heap.size < w4'.heap.size ∨ w5'.heap.size ≤ w2'.heap.size by omega)).trans ((hbn.cell (p := (⟨w2'.heap.size, 2, none⟩ : Addr)) (show w2'.heap.size < w11'.heap.size by omega)).trans cm02)
 replace cg00 := (ho.cell (p := (⟨w5'.heap.size, 0, none⟩ : Addr)) (show w5'.heap.size < w4'.heap.size ∨ w5'.heap.size ≤ w5'.heap.size by omega)).trans ((hbn.cell (p := (⟨w5'.heap.size, 0, none⟩ : Addr)) (show w5'.heap.size < w11'.heap.size by omega)).trans cg00)
 replace cg01 := (ho.cell (p := (⟨w5'.heap.size, 1, none⟩ : Addr)) (show w5'.heap.size < w4'.heap.size ∨ w5'.heap.size ≤ w5'.heap.size by omega)).trans ((hbn.cell (p := (⟨w5'.heap.size, 1, none⟩ : Addr)) (show w5'.heap.size < w11'.heap.size by omega)).trans cg01)
 replace cg02 := (ho.cell (p := (⟨w5'.heap.size, 2, none⟩ : Addr)) (show w5'.heap.size < w4'.heap.size ∨ w5'.heap.size ≤ w5'.heap.size by omega)).trans ((hbn.cell (p := (⟨w5'.heap.size, 2, none⟩ : Addr)) (show w5'.heap.size < w11'.heap.size by omega)).trans cg02)
 have hb12 := hbm12.trans (ho.below (by omega))
 have hs12 : w11'.heap.size ≤ w12'.heap.size := by have := ho.size; omega
 clear hbn ho hbm12
 have hk0 := hidI hm
 clear hm hg0
 have hk0f : decide ((1 + 3 * (F0.length : Int)) < 0) = false := by rw [decide_eq_false_iff_not]; omega
 have hk0g : ¬ (1 + 3 * (F0.length : Int)) < 0 := by omega
 have hkq : ((1 + 3 * (F0.length : Int)) != (1 + 3 * (F0.length : Int))) = false := by simp
 go_wp2_with fail
 refine (heldGraph_any w12' FR0 FS0 _ F0.length 1 (hk0.out.read.mono (by omega)) (by omega) (by omega) (by omega)).mono ?_
 rintro e w13' ⟨rfl, hbn⟩
 have hb13 := hb12.trans (hbn.mono hb12.size)
 have hs13 := hbn.size
 replace hm0 := hidI (hm0.out.below hbn (by omega))
 replace hk0 := hidI (hk0.out.below hbn (by omega))
 replace cm00 := (hbn.cell (p := (⟨w2'.heap.size, 0, none⟩ : Addr)) (show w2'.heap.size < w12'.heap.size by omega)).trans cm00
 replace cm01 := (hbn.cell (p := (⟨w2'.heap.size, 1, none⟩ : Addr)) (show w2'.heap.size < w12'.heap.size by omega)).trans cm01
 replace cm02 := (hbn.cell (p := (⟨w2'.heap.size, 2, none⟩ : Addr)) (show w2'.heap.size < w12'.heap.size by omega)).trans cm02
 replace cg00 := (hbn.cell (p := (⟨w5'.heap.size, 0, none⟩ : Addr)) (show w5'.heap.size < w12'.heap.size by omega)).trans cg00
 replace cg01 := (hbn.cell (p := (⟨w5'.heap.size, 1, none⟩ : Addr)) (show w5'.heap.size < w12'.heap.size by omega)).trans cg01
 replace cg02 := (hbn.cell (p := (⟨w5'.heap.size, 2, none⟩ : Addr)) (show w5'.heap.size < w12'.heap.size by omega)).trans cg02
 clear hbn
 go_wp2_with fail
 refine (toSS_any w13' _ z1 ((hr1.out.below hb13).mono hb13.size) (by omega) hzl1.out).mono ?_
 rintro e w14' ⟨y1, y1u, rfl, hrow, hbn⟩
 have hb14 := hb13.trans (hbn.mono hb13.size)
 have hs14 := hbn.size
 replace hm0 := hidI (hm0.out.below hbn (by omega))
 replace hk0 := hidI (hk0.out.below hbn (by omega))
 replace cm00 := (hbn.cell (p := (⟨w2'.heap.size, 0, none⟩ : Addr)) (show w2'.heap.size < w13'.heap.size by omega)).trans cm00
 replace cm01 := (hbn.cell (p := (⟨w2'.heap.size, 1, none⟩ : Addr)) (show w2'.heap.size < w13'.heap.size by omega)).trans cm01
 replace cm02 := (hbn.cell (p := (⟨w2'.heap.size, 2, none⟩ : Addr)) (show w2'.heap.size < w13'.heap.size by omega)).trans cm02
 replace cg00 := (hbn.cell (p := (⟨w5'.heap.size, 0, none⟩ : Addr)) (show w5'.heap.size < w13'.heap.size by omega)).trans cg00
 replace cg01 := (hbn.cell (p := (⟨w5'.heap.size, 1, none⟩ : Addr)) (show w5'.heap.size < w13'.heap.size by omega)).trans cg01
 replace cg02 := (hbn.cell (p := (⟨w5'.heap.size, 2, none⟩ : Addr)) (show w5'.heap.size < w13'.heap.size by omega)).trans cg02
 clear hbn
 have hy1 := hidI hrow
 clear hrow
 go_wp2_with fail
 refine (progSubOf w14' a0 _ z1 (hy1.out.read.mono (by omega)) (by unfold totL; omega)).mono ?_
 intro e w15' hpost
 rw [← hF0.out, ← hFR0.out, ← hFS0.out, ← hF1.out] at hpost
 obtain ⟨q0a, q0c, rfl, hrow0, hbn⟩ := hpost
 have hb15 := hb14.trans (hbn.mono hb14.size)
 have hs15 := hbn.size
 replace hm0 := hidI (hm0.out.below hbn (by omega))
 replace hk0 := hidI (hk0.out.below hbn (by omega))
 replace hy1 := hidI (hy1.out.below hbn (by omega))
 replace cm00 := (hbn.cell (p := (⟨w2'.heap.size, 0, none⟩ : Addr)) (show w2'.heap.size < w14'.heap.size by omega)).trans cm00
 replace cm01 := (hbn.cell (p := (⟨w2'.heap.size, 1, none⟩ : Addr)) (show w2'.heap.size < w14'.heap.size by omega)).trans cm01
 replace cm02 := (hbn.cell (p := (⟨w2'.heap.size, 2, none⟩ : Addr)) (show w2'.heap.size < w14'.heap.size by omega)).trans cm02
 replace cg00 := (hbn.cell (p := (⟨w5'.heap.size, 0, none⟩ : Addr)) (show w5'.heap.size < w14'.heap.size by omega)).trans cg00
 replace cg01 := (hbn.cell (p := (⟨w5'.heap.size, 1, none⟩ : Addr)) (show w5'.heap.size < w14'.heap.size by omega)).trans cg01
 replace cg02 := (hbn.cell (p := (⟨w5'.heap.size, 2, none⟩ : Addr)) (show w5'.heap.size < w14'.heap.size by omega)).trans cg02
 clear hbn
 have hq0 := hidI hrow0
 clear hrow0
 have dm00_16 : ∀ o : Obj, (w15'.alloc o).cell? ⟨w2'.heap.size, 0, none⟩ = some (.int .i64 FR0) := fun o => (((Below.refl w15'.heap.size w15').alloc (Nat.le_refl _) o).cell (p := (⟨w2'.heap.size, 0, none⟩ : Addr)) (show w2'.heap.size < w15'.heap.size by omega)).trans cm00
 have dm01_16 : ∀ o : Obj, (w15'.alloc o).cell? ⟨w2'.heap.size, 1, none⟩ = some (.int .i64 FS0) := fun o => (((Below.refl w15'.heap.size w15').alloc (Nat.le_refl _) o).cell (p := (⟨w2'.heap.size, 1, none⟩ : Addr)) (show w2'.heap.size < w15'.heap.size by omega)).trans cm01
 have dm02_16 : ∀ o : Obj, (w15'.alloc o).cell? ⟨w2'.heap.size, 2, none⟩ = some (.slice m0a F0.length m0c) := fun o => (((Below.refl w15'.heap.size w15').alloc (Nat.le_refl _) o).cell (p := (⟨w2'.heap.size, 2, none⟩ : Addr)) (show w2'.heap.size < w15'.heap.size by omega)).trans cm02
 have dg00_16 : ∀ o : Obj, (w15'.alloc o).cell? ⟨w5'.heap.size, 0, none⟩ = some (.int .i64 FR0) := fun o => (((Below.refl w15'.heap.size w15').alloc (Nat.le_refl _) o).cell (p := (⟨w5'.heap.size, 0, none⟩ : Addr)) (show w5'.heap.size < w15'.heap.size by omega)).trans cg00
 have dg01_16 : ∀ o : Obj, (w15'.alloc o).cell? ⟨w5'.heap.size, 1, none⟩ = some (.int .i64 FS0) := fun o => (((Below.refl w15'.heap.size w15').alloc (Nat.le_refl _) o).cell (p := (⟨w5'.heap.size, 1, none⟩ : Addr)) (show w5'.heap.size < w15'.heap.size by omega)).trans cg01
 have dg02_16 : ∀ o : Obj, (w15'.alloc o).cell? ⟨w5'.heap.size, 2, none⟩ = some (.slice g0a F0.length g0c) := fun o => (((Below.refl w15'.heap.size w15').alloc (Nat.le_refl _) o).cell (p := (⟨w5'.heap.size, 2, none⟩ : Addr)) (show w5'.heap.size < w15'.heap.size by omega)).trans cg02
 obtain ⟨w16', hw16⟩ : ∃ z, z = w15'.alloc (.cells #[.int .i64 FR0, .int .i64 FS0, .slice q0a F0.length q0c] 26) := ⟨_, rfl⟩
 have hbn : Below w15'.heap.size w15' w16' := by rw [hw16]; exact (Below.refl _ _).alloc (Nat.le_refl _) _
 have hlt16 : w15'.heap.size < w16'.heap.size := by rw [hw16]; simp
 have hnb : w16'.heap[w15'.heap.size]? = some (.cells #[.int .i64 FR0, .int .i64 FS0, .slice q0a F0.length q0c] 26 (0, 0)) := by rw [hw16]; exact heap_alloc_new _ _
 replace hw16 := hidI hw16
 have hb16 := hb15.trans (hbn.mono hb15.size)
 have hs16 := hbn.size
 replace hm0 := hidI (hm0.out.below hbn (by omega))
 replace hk0 := hidI (hk0.out.below hbn (by omega))
 replace hy1 := hidI (hy1.out.below hbn (by omega))
 replace hq0 := hidI (hq0.out.below hbn (by omega))
 replace cm00 := (hbn.cell (p := (⟨w2'.heap.size, 0, none⟩ : Addr)) (show w2'.heap.size < w15'.heap.size by omega)).trans cm00
 replace cm01 := (hbn.cell (p := (⟨w2'.heap.size, 1, none⟩ : Addr)) (show w2'.heap.size < w15'.heap.size by omega)).trans cm01
 replace cm02 := (hbn.cell (p := (⟨w2'.heap.size, 2, none⟩ : Addr)) (show w2'.heap.size < w15'.heap.size by omega)).trans cm02
 replace cg00 := (hbn.cell (p := (⟨w5'.heap.size, 0, none⟩ : Addr)) (show w5'.heap.size < w15'.heap.size by omega)).trans cg00
 replace cg01 := (hbn.cell (p := (⟨w5'.heap.size, 1, none⟩ : Addr)) (show w5'.heap.size < w15'.heap.size by omega)).trans cg01
 replace cg02 := (hbn.cell (p := (⟨w5'.heap.size, 2, none⟩ : Addr)) (show w5'.heap.size < w15'.heap.size by omega)).trans cg02
 clear hbn
 have cq00 : w16'.cell? ⟨w15'.heap.size, 0, none⟩ = some (.int .i64 FR0) := by simpa using cell_of_heap hnb 0
 have cq01 : w16'.cell? ⟨w15'.heap.size, 1, none⟩ = some (.int .i64 FS0) := by simpa using cell_of_heap hnb 1
 have cq02 : w16'.cell? ⟨w15'.heap.size, 2, none⟩ = some (.slice q0a F0.length q0c) := by simpa using cell_of_heap hnb 2
 clear hnb
 clear hy1
 go_wp2_with fail
 try rw [← hw16.out]
 clear dm00_16 dm01_16 dm02_16 dg00_16 dg01_16 dg02_16
 refine (eqGraph_same w16' FR0 FS0 _ _ F0.length (flatE F0) (hq0.out.read.mono (by omega)) (hm0.out.read.mono (by omega))).mono ?_
 rintro e w17' ⟨rfl, hbn⟩
 have hb17 := hb16.trans (hbn.mono hb16.size)
 have hs17 := hbn.size
 replace hm0 := hidI (hm0.out.below hbn (by omega))
 replace hk0 := hidI (hk0.out.below hbn (by omega))
 replace hq0 := hidI (hq0.out.below hbn (by omega))
 replace cm00 := (hbn.cell (p := (⟨w2'.heap.size, 0, none⟩ : Addr)) (show w2'.heap.size < w16'.heap.size by omega)).trans cm00
 replace cm01 := (hbn.cell (p := (⟨w2'.heap.size, 1, none⟩ : Addr)) (show w2'.heap.size < w16'.heap.size by omega)).trans cm01
 replace cm02 := (hbn.cell (p := (⟨w2'.heap.size, 2, none⟩ : Addr)) (show w2'.heap.size < w16'.heap.size by omega)).trans cm02
 replace cg00 := (hbn.cell (p := (⟨w5'.heap.size, 0, none⟩ : Addr)) (show w5'.heap.size < w16'.heap.size by omega)).trans cg00
 replace cg01 := (hbn.cell (p := (⟨w5'.heap.size, 1, none⟩ : Addr)) (show w5'.heap.size < w16'.heap.size by omega)).trans cg01
 replace cg02 := (hbn.cell (p := (⟨w5'.heap.size, 2, none⟩ : Addr)) (show w5'.heap.size < w16'.heap.size by omega)).trans cg02
 replace cq00 := (hbn.cell (p := (⟨w15'.heap.size, 0, none⟩ : Addr)) (show w15'.heap.size < w16'.heap.size by omega)).trans cq00
 replace cq01 := (hbn.cell (p := (⟨w15'.heap.size, 1, none⟩ : Addr)) (show w15'.heap.size < w16'.heap.size by omega)).trans cq01
 replace cq02 := (hbn.cell (p := (⟨w15'.heap.size, 2, none⟩ : Addr)) (show w15'.heap.size < w16'.heap.size by omega)).trans cq02
 clear hbn
 go_wp2_with fail
 refine (heldGraph_any w17' FR0 FS0 _ F0.length 1 (hk0.out.read.mono (by omega)) (by omega) (by omega) (by omega)).mono ?_
 rintro e w18' ⟨rfl, hbn⟩
 have hb18 := hb17.trans (hbn.mono hb17.size)
 have hs18 := hbn.size
 replace hm0 := hidI (hm0.out.below hbn (by omega))
 replace hk0 := hidI (hk0.out.below hbn (by omega))
 replace hq0 := hidI (hq0.out.below hbn (by omega))
 replace cm00 := (hbn.cell (p := (⟨w2'.heap.size, 0, none⟩ : Addr)) (show w2'.heap.size < w17'.heap.size by omega)).trans cm00
 replace cm01 := (hbn.cell (p := (⟨w2'.heap.size, 1, none⟩ : Addr)) (show w2'.heap.size < w17'.heap.size by omega)).trans cm01
 replace cm02 := (hbn.cell (p := (⟨w2'.heap.size, 2, none⟩ : Addr)) (show w2'.heap.size < w17'.heap.size by omega)).trans cm02
 replace cg00 := (hbn.cell (p := (⟨w5'.heap.size, 0, none⟩ : Addr)) (show w5'.heap.size < w17'.heap.size by omega)).trans cg00
 replace cg01 := (hbn.cell (p := (⟨w5'.heap.size, 1, none⟩ : Addr)) (show w5'.heap.size < w17'.heap.size by omega)).trans cg01
 replace cg02 := (hbn.cell (p := (⟨w5'.heap.size, 2, none⟩ : Addr)) (show w5'.heap.size < w17'.heap.size by omega)).trans cg02
 replace cq00 := (hbn.cell (p := (⟨w15'.heap.size, 0, none⟩ : Addr)) (show w15'.heap.size < w17'.heap.size by omega)).trans cq00
 replace cq01 := (hbn.cell (p := (⟨w15'.heap.size, 1, none⟩ : Addr)) (show w15'.heap.size < w17'.heap.size by omega)).trans cq01
 replace cq02 := (hbn.cell (p := (⟨w15'.heap.size, 2, none⟩ : Addr)) (show w15'.heap.size < w17'.heap.size by omega)).trans cq02
 clear hbn
 go_wp2_with fail
 go_ret
 exact ⟨rfl, hb18⟩
theorem walk (W : World) (a0 : Int) (a1 : Option Addr) (len1 cap1 : Nat) (z1 : List (List Int)) (w0 : (Lit.int .i64 a0).wf = true) (w1 : IsRowW W a1 len1 cap1 z1) :
 Calls Tryz.prog 3 #[.int .i64 a0, .slice a1 len1 cap1] W fun e w' => e = .returned (.bool true) ∧ Below W.heap.size W w' := by
 by_cases s1_ : 1048576 < (z1.length + sumN (z1.map List.length))
 · exact walk0_big1 W a0 a1 len1 cap1 z1 w1.heads s1_
 obtain ⟨r1, i1, e1⟩ := w1.read (by omega)
 exact walk0 W a0 (wf_i64 w0) _ _ r1 i1 (by omega)
set_option maxRecDepth 100000 in
theorem lifted (os : Os) (started : os.Started) (H : Type) (enc : TypeId × Value → H) :
 ReturnsInHanded {} Tryz.checked os 3 .any (Rows.fnExactSubgroupOfSpec.pre6 enc Tryz.prog Tryz.f3 Rows.fnExactSubgroupOfRow.domain false) (Rows.fnExactSubgroupOfSpec.post enc Tryz.prog Tryz.f3 false true false false) := by
 refine returnsInHanded_of_change (C := Tryz.checked) own started (by kernel_rfl) Tryz.func3
  (ChangeSpec.witness6 (enc := enc) (C := Tryz.checked) false ⟨#[], #[.int .i64 0, .slice none 0 0], []⟩ 8 (by kernel_rfl) (by kernel_rfl) (by kernel_rfl) (by kernel_rfl)) ?_
 intro W base args ds gs before hval0 hW hcnd _
 have hval : ∀ (j : Nat) t v, Tryz.f3.params[j]? = some t → args[j]? = some v → Value.okWide Tryz.prog W .any base t v := hval0
 have hW' := hW
 obtain ⟨p, q, hA0, hV, rfl, hfz, hnd⟩ := hW
 have hA : DataW.TrodAll enc Tryz.prog W 0 (fun _ => true) true Tryz.f3.params.toList args.toList ds p := hA0
 rw [Tryz.params3] at hA hval
 obtain ⟨v0, vs0, d0, ds0, p0, q0, hargs, rfl, rfl, h0, r0⟩ := trodAll_cons hA
 obtain ⟨v1, vs1, d1, ds1, p1, q1, rfl, rfl, rfl, h1, r1⟩ := trodAll_cons r0
 obtain ⟨rfl, rfl, rfl⟩ := trodAll_nil r1
 obtain rfl : args = #[v0, v1] := by cases args; simp_all
 obtain ⟨rfl, rfl⟩ := trodVars_none hV
 obtain ⟨a0, rfl, rfl, rfl, w0⟩ := open_int Tryz.underlying3 (hval 0 3 v0 rfl rfl) h0
 have k1 := h1
 have lt1 : ∀ x ∈ p1, x.block < W.heap.size := by obtain ⟨m, hm⟩ := k1; exact DataW.trod_lt m _ _ _ hm
 obtain ⟨a1, len1, cap1, z1, rfl, w1⟩ := open_words (hval 1 22 v1 rfl rfl) h1
 clear hA0 hval0
 refine (walk W a0 a1 len1 cap1 z1 w0 w1).mono fun e W' ⟨he, hg⟩ => ?_
 subst he
 exact ⟨_, rfl, _, _, _, [], _, [], hW', trodAll_mk1 (shut_bool Tryz.underlying4 _), (trodAll_cons_mk (shut_int Tryz.underlying3 w0) (trodAll_cons_mk (Below.trod laidOut (by kernel_rfl) (of_decide_eq_true (by kernel_rfl)) k1 hg lt1) trodAll_mk0)), rfl, hg.frame _, fun h => by cases h⟩
theorem over : Rows.fnExactSubgroupOfRow.holds Tryz.pinned (OpenSpec.ofChange Rows.fnExactSubgroupOfSpec) :=
 OpenClaim.holds_of_wide 3 Tryz.f3 rfl rfl rfl rfl rfl rfl rfl ⟨rfl, rfl, rfl, rfl, rfl⟩ rfl rfl rfl rfl rfl (by kernel_rfl) Tryz.func3 (by kernel_rfl)
  (of_decide_eq_true (by kernel_rfl)) (by unfold Func.isWrapper; first | (rw [if_pos (by decide +kernel)]; kernel_rfl) | (rw [if_neg (by decide +kernel)]; exact ⟨rfl, rfl⟩))
  (fun os started H enc _ => lifted os started H enc)
theorem proved : Rows.FnExactSubgroupOfSaid := over
#print axioms proved
end Go.Proofs.YtjnhhhnehkmfmaaGreat.fnExactSubgroupOf
