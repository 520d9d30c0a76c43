/- For every list of words and slice of ints, laws.FnExactExpandBy returns true and leaves its arguments as they are: the program's word is the model's, in memory of its own. Conditions: none beyond the row's. -/
import Derived.Test.YtpjlamnjiilgbaaLW2
import Derived.Test.YtpjlamnjiilgbaaSA
import Derived.Test.YtpjlamnjiilgbaaLS4
import Derived.Test.YtpjlamnjiilgbaaKX
import Derived.WalkKit
import Derived.ProofKit
import Derived.OpenShut
import Derived.ShutString
import Derived.Below
namespace Go.Proofs.Ytpjlamnjiilgbaa.fnExactExpandBy
open Go.ChangeShapes Go.WideShapes Go.ChangeAt Go.RowKit
open Go.ChangeMaps (open_string shut_string)
set_option linter.unusedVariables false

theorem own : ownKnob Try.prog.godebug = none := by kernel_rfl

theorem laidOut : laidOutB Try.prog = true := by kernel_rfl
theorem walk0_big1 (w : World) (a0 : Option Addr) (len0 cap0 : Nat) (z0 : List (List Int)) (hd0 : HeadsW w (.slice a0 len0 cap0) (z0.map List.length)) (a1 : Option Addr) (len1 cap1 : Nat) (m1 : (len1 : Int) ≤ 9223372036854775807) (hbig : 1048576 < len1) :
    Calls Try.prog 3 #[.slice a0 len0 cap0, .slice a1 len1 cap1] w fun e w' => e = .returned (.bool true) ∧ Below w.heap.size w w' := by
  have hbi : (1048576 : Int) < (len1 : Int) := by omega
  go_enter Try.func3, Try.ntmps3
  go_wp2
  go_ret
  exact ⟨rfl, Below.refl _ _⟩
theorem walk0_big0 (w : World) (a0 : Option Addr) (len0 cap0 : Nat) (z0 : List (List Int)) (hd0 : HeadsW w (.slice a0 len0 cap0) (z0.map List.length)) (a1 : Option Addr) (len1 cap1 : Nat) (q1 : len1 ≤ 1048576) (hbig : 1048576 < (z0.length + sumN (z0.map List.length))) :
    Calls Try.prog 3 #[.slice a0 len0 cap0, .slice a1 len1 cap1] w fun e w' => e = .returned (.bool true) ∧ Below w.heap.size w w' := by
  have hq1 : ¬ (1048576 : Int) < (len1 : Int) := by omega
  replace hbig := hidI hbig
  replace hd0 := hidI hd0
  go_enter Try.func3, Try.ntmps3
  go_wp2_with fail
  refine (szSS_law w _ z0 1048576 hd0.out (by omega) (by omega)).mono ?_
  rw [if_pos (by have := hbig.out; omega)]
  rintro e wz ⟨rfl, rfl⟩
  go_wp2
  go_ret
  exact ⟨rfl, Below.refl _ _⟩
set_option maxHeartbeats 3200000 in
theorem walk0 (w : World) (v0 : Value) (z0 : List (List Int)) (h0 : ReadSS w.heap.size w v0 z0) (i0 : ∀ zs ∈ z0, InR zs) (v1 : Value) (z1 : List Int) (h1 : ReadI w.heap.size w v1 z1) (i1 : InR z1) (l1 : z1.length ≤ 1048576) (lw : (z0.length + sumN (z0.map List.length)) ≤ 1048576) :
    Calls Try.prog 3 #[v0, v1] w fun e w' => e = .returned (.bool true) ∧ Below w.heap.size w w' := by
  have hr1 := hidI h1
  obtain ⟨_, ad1, cap1, rfl, hq1, hq2⟩ := h1
  clear hq1 hq2
  have hbi1 : ¬ (1048576 : Int) < (z1.length : Int) := by omega
  have hr0 := hidI h0
  have hd0 := hidI h0.heads
  obtain ⟨_, ad0, cap0, rfl, hq1, hq2⟩ := h0
  clear hq1 hq2
  replace i0 := hidI i0
  have hzl0 := hidI (words_le (zss := z0) (by omega))
  replace i1 := hidI i1
  obtain ⟨F0, hF0⟩ : ∃ F, F = exL z0 z1 := ⟨_, rfl⟩
  have hfl0 : F0.length ≤ 1000000000 := by rw [hF0]; have := (exL_len (words_le2 (zss := z0) (by omega)) z1).2; omega
  replace hF0 := hidI hF0
  have hbw := Below.refl w.heap.size w
  go_enter Try.func3, Try.ntmps3
  go_wp2_with fail
  refine (szSS_law w _ z0 1048576 hd0.out (by omega) (by omega)).mono ?_
  rw [if_neg (by omega)]
  rintro e wz ⟨rfl, rfl⟩
  have hleftv0 : ¬ (1048576 - ((z0.length : Int) + (sumN (z0.map List.length) : Nat))) < 0 := by omega
  go_wp2_with fail
  refine (toSS_any w _ z0 ((hr0.out.below hbw).mono hbw.size) (by omega) hzl0.out).mono ?_
  rintro e w1' ⟨u0, u0u, rfl, hrow, hbn⟩
  have hb1 := hbw.trans (hbn.mono hbw.size)
  have hs1 := hbn.size
  clear hbn
  have hu0 := hidI hrow
  clear hrow
  go_wp2_with fail
  refine (toIntS_any w1' _ z1 ((hr1.out.below hb1).mono hb1.size) (by omega)).mono ?_
  rintro e w2' ⟨u1, rfl, hrow, hbn⟩
  have hb2 := hb1.trans (hbn.mono hb1.size)
  have hs2 := hbn.size
  replace hu0 := hidI (hu0.out.below hbn (by omega))
  clear hbn
  have hu1 := hidI hrow
  clear hrow
  go_wp2_with fail
  refine (specExpand w2' _ _ z0 z1 (hu0.out.read.mono (by omega)) (hu1.out.read.mono (by omega)) i1.out (by omega) (words_le2 (by omega)) (by omega)).mono ?_
  intro e w3' hpost
  rw [← hF0.out] at hpost
  obtain ⟨m0, rfl, hrow0, hbn⟩ := hpost
  have hb3 := hb2.trans (hbn.mono hb2.size)
  have hs3 := hbn.size
  replace hu0 := hidI (hu0.out.below hbn (by omega))
  replace hu1 := hidI (hu1.out.below hbn (by omega))
  clear hbn
  have hm0 := hidI hrow0
  clear hrow0
  clear hu0
  clear hu1
  go_wp2_with fail
  refine (toSS_any w3' _ z0 ((hr0.out.below hb3).mono hb3.size) (by omega) hzl0.out).mono ?_
  rintro e w4' ⟨x0, x0u, rfl, hrow, hbn⟩
  have hb4 := hb3.trans (hbn.mono hb3.size)
  have hs4 := hbn.size
  replace hm0 := hidI (hm0.out.below hbn (by omega))
  clear hbn
  have hx0 := hidI hrow
  clear hrow
  go_wp2_with fail
  refine (toIntS_any w4' _ z1 ((hr1.out.below hb4).mono hb4.size) (by omega)).mono ?_
  rintro e w5' ⟨x1, rfl, hrow, hbn⟩
  have hb5 := hb4.trans (hbn.mono hb4.size)
  have hs5 := hbn.size
  replace hm0 := hidI (hm0.out.below hbn (by omega))
  replace hx0 := hidI (hx0.out.below hbn (by omega))
  clear hbn
  have hx1 := hidI hrow
  clear hrow
  go_wp2_with fail
  refine (progExpand w5' _ _ z0 z1 (hx0.out.read.mono (by omega)) (hx1.out.read.mono (by omega)) i1.out i0.out (by omega) (words_le2 (by omega)) (by omega)).mono ?_
  intro e w6' hpost
  rw [← hF0.out] at hpost
  obtain ⟨g0, rfl, hrow0, hbn⟩ := hpost
  have hb6 := hb5.trans (hbn.mono hb5.size)
  have hs6 := hbn.size
  replace hm0 := hidI (hm0.out.below hbn (by omega))
  replace hx0 := hidI (hx0.out.below hbn (by omega))
  replace hx1 := hidI (hx1.out.below hbn (by omega))
  clear hbn
  have hg0 := hidI hrow0
  clear hrow0
  go_wp2_with fail
  refine (eqIntS_law w6' g0 m0 F0 (hg0.out.read.mono (by omega)) (hm0.out.read.mono (by omega))).mono ?_
  rintro e w7' ⟨rfl, hbn, hzz⟩
  clear hzz
  have hb7 := hb6.trans (hbn.mono hb6.size)
  have hs7 := hbn.size
  replace hm0 := hidI (hm0.out.below hbn (by omega))
  replace hx0 := hidI (hx0.out.below hbn (by omega))
  replace hx1 := hidI (hx1.out.below hbn (by omega))
  replace hg0 := hidI (hg0.out.below hbn (by omega))
  clear hbn
  go_wp2_with fail
  refine (toSS_any w7' _ z0 ((hr0.out.below hb7).mono hb7.size) (by omega) hzl0.out).mono ?_
  rintro e w8' ⟨t0, t0u, rfl, hrow, hbn⟩
  have hb8 := hb7.trans (hbn.mono hb7.size)
  have hs8 := hbn.size
  replace hm0 := hidI (hm0.out.below hbn (by omega))
  replace hx0 := hidI (hx0.out.below hbn (by omega))
  replace hx1 := hidI (hx1.out.below hbn (by omega))
  replace hg0 := hidI (hg0.out.below hbn (by omega))
  clear hbn
  have ht0 := hidI hrow
  clear hrow
  go_wp2_with fail
  refine (eqSS_law w8' x0 t0 z0 (hx0.out.read.mono (by omega)) (ht0.out.read.mono (by omega))).mono ?_
  rintro e w9' ⟨rfl, hbn, hzz⟩
  clear hzz
  have hb9 := hb8.trans (hbn.mono hb8.size)
  have hs9 := hbn.size
  replace hm0 := hidI (hm0.out.below hbn (by omega))
  replace hx0 := hidI (hx0.out.below hbn (by omega))
  replace hx1 := hidI (hx1.out.below hbn (by omega))
  replace hg0 := hidI (hg0.out.below hbn (by omega))
  replace ht0 := hidI (ht0.out.below hbn (by omega))
  clear hbn
  clear ht0
  go_wp2_with fail
  refine (toIntS_any w9' _ z1 ((hr1.out.below hb9).mono hb9.size) (by omega)).mono ?_
  rintro e w10' ⟨t1, rfl, hrow, hbn⟩
  have hb10 := hb9.trans (hbn.mono hb9.size)
  have hs10 := hbn.size
  replace hm0 := hidI (hm0.out.below hbn (by omega))
  replace hx0 := hidI (hx0.out.below hbn (by omega))
  replace hx1 := hidI (hx1.out.below hbn (by omega))
  replace hg0 := hidI (hg0.out.below hbn (by omega))
  clear hbn
  have ht1 := hidI hrow
  clear hrow
  go_wp2_with fail
  refine (eqIntS_law w10' x1 t1 z1 (hx1.out.read.mono (by omega)) (ht1.out.read.mono (by omega))).mono ?_
  rintro e w11' ⟨rfl, hbn, hzz⟩
  clear hzz
  have hb11 := hb10.trans (hbn.mono hb10.size)
  have hs11 := hbn.size
  replace hm0 := hidI (hm0.out.below hbn (by omega))
  replace hx0 := hidI (hx0.out.below hbn (by omega))
  replace hx1 := hidI (hx1.out.below hbn (by omega))
  replace hg0 := hidI (hg0.out.below hbn (by omega))
  replace ht1 := hidI (ht1.out.below hbn (by omega))
  clear hbn
  clear ht1
  go_wp2_with fail
  refine (markSS_any w11' (w3'.heap.size) (w4'.heap.size) x0 _ z0 1 hx0.out (by omega) (by omega)).mono ?_
  rintro e w12' ⟨rfl, hm, ho⟩
  have hb12 := hb11.trans (ho.below (by omega))
  have hs12 : w11'.heap.size ≤ w12'.heap.size := by have := ho.size; omega
  replace hm0 := hidI (hm0.out.only ho (by omega))
  replace hx1 := hidI (hx1.out.only ho (by omega))
  replace hg0 := hidI (hg0.out.only ho (by omega))
  clear ho
  clear hm hx0
  go_wp2_with fail
  refine (markIntS_any w12' (w4'.heap.size) (w5'.heap.size) x1 z1 (1 + (sumN (z0.map List.length) : Nat)) hx1.out (by omega) (by omega) (by omega)).mono ?_
  rintro e w13' ⟨rfl, hm, ho⟩
  have hb13 := hb12.trans (ho.below (by omega))
  have hs13 : w12'.heap.size ≤ w13'.heap.size := by have := ho.size; omega
  replace hm0 := hidI (hm0.out.only ho (by omega))
  replace hg0 := hidI (hg0.out.only ho (by omega))
  clear ho
  clear hm hx1
  have hkk : decide ((1 + (sumN (z0.map List.length) : Nat) + (z1.length : Int)) < 0) = false := by rw [decide_eq_false_iff_not]; omega
  have hkk2 : ¬ (1 + (sumN (z0.map List.length) : Nat) + (z1.length : Int)) < 0 := by omega
  go_wp2_with fail
  refine (eqIntS_law w13' g0 m0 F0 (hg0.out.read.mono (by omega)) (hm0.out.read.mono (by omega))).mono ?_
  rintro e w14' ⟨rfl, hbn, hzz⟩
  clear hzz
  have hb14 := hb13.trans (hbn.mono hb13.size)
  have hs14 := hbn.size
  replace hm0 := hidI (hm0.out.below hbn (by omega))
  replace hg0 := hidI (hg0.out.below hbn (by omega))
  clear hbn
  go_wp2_with fail
  refine (markIntS_any w14' (w5'.heap.size) (w6'.heap.size) g0 F0 1 hg0.out (by omega) (by omega) (by omega)).mono ?_
  rintro e w15' ⟨rfl, hm, ho⟩
  have hb15 := hb14.trans (ho.below (by omega))
  have hs15 : w14'.heap.size ≤ w15'.heap.size := by have := ho.size; omega
  replace hm0 := hidI (hm0.out.only ho (by omega))
  clear ho
  have hk0 := hidI hm
  clear hm hg0
  have hk0f : decide ((1 + (F0.length : Int)) < 0) = false := by rw [decide_eq_false_iff_not]; omega
  have hk0g : ¬ (1 + (F0.length : Int)) < 0 := by omega
  have hkq : ((1 + (F0.length : Int)) != (1 + (F0.length : Int))) = false := by simp
  go_wp2_with fail
  refine (heldIntS_any w15' w15'.heap.size g0 F0.length 1 (hk0.out.read.mono (by omega)) (by omega) (by omega) (by omega)).mono ?_
  rintro e wz ⟨rfl, rfl⟩
  go_wp2_with fail
  refine (toSS_any w15' _ z0 ((hr0.out.below hb15).mono hb15.size) (by omega) hzl0.out).mono ?_
  rintro e w16' ⟨y0, y0u, rfl, hrow, hbn⟩
  have hb16 := hb15.trans (hbn.mono hb15.size)
  have hs16 := hbn.size
  replace hm0 := hidI (hm0.out.below hbn (by omega))
  replace hk0 := hidI (hk0.out.below hbn (by omega))
  clear hbn
  have hy0 := hidI hrow
  clear hrow
  go_wp2_with fail
  refine (toIntS_any w16' _ z1 ((hr1.out.below hb16).mono hb16.size) (by omega)).mono ?_
  rintro e w17' ⟨y1, rfl, hrow, hbn⟩
  have hb17 := hb16.trans (hbn.mono hb16.size)
  have hs17 := hbn.size
  replace hm0 := hidI (hm0.out.below hbn (by omega))
  replace hk0 := hidI (hk0.out.below hbn (by omega))
  replace hy0 := hidI (hy0.out.below hbn (by omega))
  clear hbn
  have hy1 := hidI hrow
  clear hrow
  go_wp2_with fail
  refine (progExpand w17' _ _ z0 z1 (hy0.out.read.mono (by omega)) (hy1.out.read.mono (by omega)) i1.out i0.out (by omega) (words_le2 (by omega)) (by omega)).mono ?_
  intro e w18' hpost
  rw [← hF0.out] at hpost
  obtain ⟨q0, rfl, hrow0, hbn⟩ := hpost
  have hb18 := hb17.trans (hbn.mono hb17.size)
  have hs18 := hbn.size
  replace hm0 := hidI (hm0.out.below hbn (by omega))
  replace hk0 := hidI (hk0.out.below hbn (by omega))
  replace hy0 := hidI (hy0.out.below hbn (by omega))
  replace hy1 := hidI (hy1.out.below hbn (by omega))
  clear hbn
  have hq0 := hidI hrow0
  clear hrow0
  clear hy0
  clear hy1
  go_wp2_with fail
  refine (eqIntS_law w18' q0 m0 F0 (hq0.out.read.mono (by omega)) (hm0.out.read.mono (by omega))).mono ?_
  rintro e w19' ⟨rfl, hbn, hzz⟩
  clear hzz
  have hb19 := hb18.trans (hbn.mono hb18.size)
  have hs19 := hbn.size
  replace hm0 := hidI (hm0.out.below hbn (by omega))
  replace hk0 := hidI (hk0.out.below hbn (by omega))
  replace hq0 := hidI (hq0.out.below hbn (by omega))
  clear hbn
  go_wp2_with fail
  refine (heldIntS_any w19' w19'.heap.size g0 F0.length 1 (hk0.out.read.mono (by omega)) (by omega) (by omega) (by omega)).mono ?_
  rintro e wz ⟨rfl, rfl⟩
  go_wp2_with fail
  go_ret
  exact ⟨rfl, hb19⟩
theorem walk (W : World) (a0 : Option Addr) (len0 cap0 : Nat) (z0 : List (List Int)) (a1 : Option Addr) (len1 cap1 : Nat) (z1 : List Int) (w0 : IsRowW W a0 len0 cap0 z0) (w1 : IsRow .i64 W a1 len1 cap1 z1) :
    Calls Try.prog 3 #[.slice a0 len0 cap0, .slice a1 len1 cap1] W fun e w' => e = .returned (.bool true) ∧ Below W.heap.size W w' := by
  by_cases s1_ : 1048576 < len1
  · exact walk0_big1 W a0 len0 cap0 z0 w0.heads a1 len1 cap1 (by have := row_len w1; omega) s1_
  by_cases s0_ : 1048576 < (z0.length + sumN (z0.map List.length))
  · exact walk0_big0 W a0 len0 cap0 z0 w0.heads a1 len1 cap1 (by omega) s0_
  obtain ⟨r0, i0, e0⟩ := w0.read (by omega)
  obtain ⟨r1, i1, e1⟩ := readI_row w1 (by omega)
  exact walk0 W _ _ r0 i0 _ _ r1 i1 (by omega) (by omega)

/-! ### The row's step -/
set_option maxRecDepth 100000 in
theorem lifted (os : Os) (started : os.Started) (H : Type) (enc : TypeId × Value → H) :
    ReturnsInHanded {} Try.checked os 3 .any (Rows.fnExactExpandBySpec.pre6 enc Try.prog Try.f3 Rows.fnExactExpandByRow.domain false) (Rows.fnExactExpandBySpec.post enc Try.prog Try.f3 false true false false) := by
  refine returnsInHanded_of_change (C := Try.checked) own started (by kernel_rfl) Try.func3
    (ChangeSpec.witness6 (enc := enc) (C := Try.checked) false ⟨#[], #[.slice none 0 0, .slice none 0 0], []⟩ 8 (by kernel_rfl) (by kernel_rfl) (by kernel_rfl) (by kernel_rfl)) ?_
  intro W base args ds gs before hval0 hW hcnd _
  have hval : ∀ (j : Nat) t v, Try.f3.params[j]? = some t → args[j]? = some v → Value.okWide Try.prog W .any base t v := hval0
  have hW' := hW
  obtain ⟨p, q, hA0, hV, rfl, hfz, hnd⟩ := hW
  have hA : DataW.TrodAll enc Try.prog W 0 (fun _ => true) true Try.f3.params.toList args.toList ds p := hA0
  rw [Try.params3] at hA hval
  obtain ⟨v0, vs0, d0, ds0, p0, q0, hargs, rfl, rfl, h0, r0⟩ := trodAll_cons hA
  obtain ⟨v1, vs1, d1, ds1, p1, q1, rfl, rfl, rfl, h1, r1⟩ := trodAll_cons r0
  obtain ⟨rfl, rfl, rfl⟩ := trodAll_nil r1
  obtain rfl : args = #[v0, v1] := by cases args; simp_all
  obtain ⟨rfl, rfl⟩ := trodVars_none hV
  have k0 := h0
  have lt0 : ∀ x ∈ p0, x.block < W.heap.size := by obtain ⟨m, hm⟩ := k0; exact DataW.trod_lt m _ _ _ hm
  obtain ⟨a0, len0, cap0, z0, rfl, w0⟩ := open_words (hval 0 22 v0 rfl rfl) h0
  obtain ⟨a1, len1, cap1, rfl⟩ := okWide_slice Try.underlying23 (hval 1 23 v1 rfl rfl)
  have k1 := h1
  have lt1 : ∀ x ∈ p1, x.block < W.heap.size := by obtain ⟨m, hm⟩ := k1; exact DataW.trod_lt m _ _ _ hm
  obtain ⟨z1, w1⟩ : ∃ zs, IsRow .i64 W a1 len1 cap1 zs := by
    obtain ⟨fuel, hf⟩ := h1
    rcases open_ints Try.underlying23 Try.underlying3 (by kernel_rfl) hf with ⟨hcs, _⟩ | ⟨x, l, c, zs, hcs, _, hl, hm, hz, _, hcell, hwz⟩
    · simp [Value.cells] at hcs
      obtain ⟨rfl, rfl, rfl⟩ := hcs
      exact ⟨[], .inl ⟨rfl, rfl, rfl, rfl⟩⟩
    · simp [Value.cells] at hcs
      obtain ⟨rfl, rfl, rfl⟩ := hcs
      exact ⟨zs, .inr ⟨_, rfl, hl, hm, by simpa using hz, hcell, hwz⟩⟩
  clear hA0 hval0
  refine (walk W a0 len0 cap0 z0 a1 len1 cap1 z1 w0 w1).mono fun e W' ⟨he, hg⟩ => ?_
  subst he
  exact ⟨_, rfl, _, _, _, [], _, [], hW', trodAll_mk1 (shut_bool Try.underlying4 _), (trodAll_cons_mk (Below.trod laidOut (by kernel_rfl) (of_decide_eq_true (by kernel_rfl)) k0 hg lt0) (trodAll_cons_mk (Below.trod laidOut (by kernel_rfl) (of_decide_eq_true (by kernel_rfl)) k1 hg lt1) trodAll_mk0)), rfl, hg.frame _, fun h => by cases h⟩

theorem over : Rows.fnExactExpandByRow.holds Try.pinned (OpenSpec.ofChange Rows.fnExactExpandBySpec) :=
  OpenClaim.holds_of_wide 3 Try.f3 rfl rfl rfl rfl rfl rfl rfl ⟨rfl, rfl, rfl, rfl, rfl⟩ rfl rfl rfl rfl rfl (by kernel_rfl) Try.func3 (by kernel_rfl)
    (of_decide_eq_true (by kernel_rfl)) (by unfold Func.isWrapper; first | (rw [if_pos (by decide +kernel)]; kernel_rfl) | (rw [if_neg (by decide +kernel)]; exact ⟨rfl, rfl⟩))
    (fun os started H enc _ => lifted os started H enc)

theorem proved : Rows.FnExactExpandBySaid := over
#print axioms proved
end Go.Proofs.Ytpjlamnjiilgbaa.fnExactExpandBy
