/- For every int and list of words, laws.FnExactIsFreeBasis returns true and leaves its arguments as they are: the program's answer is the model's. Conditions: none beyond the row's. -/
import Derived.WalkKit
import Derived.ProofKit
import Derived.OpenShut
import Derived.ShutString
import Derived.Below
import Derived.Test.YtpjlamnjiilgbaaGreatJ1Is
import Derived.Test.YtpjlamnjiilgbaaGreatJ32Is
namespace Go.Proofs.YtpjlamnjiilgbaaGreat.fnExactIsFreeBasis
open Go.ChangeShapes Go.WideShapes Go.ChangeAt Go.RowKit
open Go.ChangeMaps (open_string shut_string)
set_option linter.unusedVariables false
theorem own : ownKnob Tryz.prog.godebug = none := by kernel_rfl
theorem laidOut : laidOutB Tryz.prog = true := by kernel_rfl
theorem walk0_big1 (w : World) (a0 : Int) (a1 : Option Addr) (len1 cap1 : Nat) (z1 : List (List Int)) (hd1 : HeadsW w (.slice a1 len1 cap1) (z1.map List.length)) (hbig : 1048576 < (z1.length + sumN (z1.map List.length))) :
 Calls Tryz.prog 5 #[.int .i64 a0, .slice a1 len1 cap1] w fun e w' => e = .returned (.bool true) ∧ Below w.heap.size w w' := by
 replace hbig := hidI hbig
 replace hd1 := hidI hd1
 go_enter Tryz.func5, Tryz.ntmps5
 go_wp2_with fail
 refine (szSS_law w _ z1 1048576 hd1.out (by omega) (by omega)).mono ?_
 rw [if_pos (by have := hbig.out; omega)]
 rintro e wz ⟨rfl, rfl⟩
 go_wp2
 go_ret
 exact ⟨rfl, Below.refl _ _⟩
set_option maxHeartbeats 3200000 in
theorem walk0 (w : World) (a0 : Int) (w0 : -9223372036854775808 ≤ a0 ∧ a0 ≤ 9223372036854775807) (v1 : Value) (z1 : List (List Int)) (h1 : ReadSS w.heap.size w v1 z1) (i1 : ∀ zs ∈ z1, InR zs) (lw : (z1.length + sumN (z1.map List.length)) ≤ 1048576) :
 Calls Tryz.prog 5 #[.int .i64 a0, v1] w fun e w' => e = .returned (.bool true) ∧ Below w.heap.size w w' := by
 have hr1 := hidI h1
 have hd1 := hidI h1.heads
 obtain ⟨_, ad1, cap1, rfl, hq1, hq2⟩ := h1
 clear hq1 hq2
 replace i1 := hidI i1
 have hzl1 := hidI (words_le (zss := z1) (by omega))
 obtain ⟨F0, hF0⟩ := exq (frB a0 z1)
 have hne0 : (F0 != F0) = false := by simp
 have heq0 : (F0 == F0) = true := by simp
 replace hF0 := hidI hF0
 have hbw := Below.refl w.heap.size w
 go_enter Tryz.func5, Tryz.ntmps5
 go_wp2_with fail
 refine (szSS_law w _ z1 1048576 hd1.out (by omega) (by omega)).mono ?_
 rw [if_neg (by omega)]
 rintro e wz ⟨rfl, rfl⟩
 have hleftv0 : ¬ (1048576 - ((z1.length : Int) + (sumN (z1.map List.length) : Nat))) < 0 := by omega
 go_wp2_with fail
 refine (toSS_any w _ z1 ((hr1.out.below hbw).mono hbw.size) (by omega) hzl1.out).mono ?_
 rintro e w1' ⟨u1, u1u, rfl, hrow, hbn⟩
 have hb1 := hbw.trans (hbn.mono hbw.size)
 have hs1 := hbn.size
 clear hbn
 have hu1 := hidI hrow
 clear hrow
 go_wp2_with fail
 refine (specFree w1' a0 _ z1 (hu1.out.read.mono (by omega)) (by unfold totL; omega)).mono ?_
 intro e w2' hpost
 rw [← hF0.out] at hpost
 obtain ⟨rfl, hbn⟩ := hpost
 have hb2 := hb1.trans (hbn.mono hb1.size)
 have hs2 := hbn.size
 replace hu1 := hidI (hu1.out.below hbn (by omega))
 clear hbn
 clear hu1
 go_wp2_with fail
 refine (toSS_any w2' _ z1 ((hr1.out.below hb2).mono hb2.size) (by omega) hzl1.out).mono ?_
 rintro e w3' ⟨x1, x1u, rfl, hrow, hbn⟩
 have hb3 := hb2.trans (hbn.mono hb2.size)
 have hs3 := hbn.size
 clear hbn
 have hx1 := hidI hrow
 clear hrow
 go_wp2_with fail
 refine (progFree w3' a0 _ z1 (hx1.out.read.mono (by omega)) (by unfold totL; omega)).mono ?_
 intro e w4' hpost
 rw [← hF0.out] at hpost
 obtain ⟨rfl, hbn⟩ := hpost
 have hb4 := hb3.trans (hbn.mono hb3.size)
 have hs4 := hbn.size
 replace hx1 := hidI (hx1.out.below hbn (by omega))
 clear hbn
 go_wp2_with fail
 refine (toSS_any w4' _ z1 ((hr1.out.below hb4).mono hb4.size) (by omega) hzl1.out).mono ?_
 rintro e w5' ⟨t1, t1u, rfl, hrow, hbn⟩
 have hb5 := hb4.trans (hbn.mono hb4.size)
 have hs5 := hbn.size
 replace hx1 := hidI (hx1.out.below hbn (by omega))
 clear hbn
 have ht1 := hidI hrow
 clear hrow
 go_wp2_with fail
 refine (eqSS_law w5' x1 t1 z1 (hx1.out.read.mono (by omega)) (ht1.out.read.mono (by omega))).mono ?_
 rintro e w6' ⟨rfl, hbn, hzz⟩
 clear hzz
 have hb6 := hb5.trans (hbn.mono hb5.size)
 have hs6 := hbn.size
 replace hx1 := hidI (hx1.out.below hbn (by omega))
 replace ht1 := hidI (ht1.out.below hbn (by omega))
 clear hbn
 clear ht1
 go_wp2_with fail
 go_ret
 exact ⟨rfl, hb6⟩
theorem walk (W : World) (a0 : Int) (a1 : Option Addr) (len1 cap1 : Nat) (z1 : List (List Int)) (w0 : (Lit.int .i64 a0).wf = true) (w1 : IsRowW W a1 len1 cap1 z1) :
 Calls Tryz.prog 5 #[.int .i64 a0, .slice a1 len1 cap1] W fun e w' => e = .returned (.bool true) ∧ Below W.heap.size W w' := by
 by_cases s1_ : 1048576 < (z1.length + sumN (z1.map List.length))
 · exact walk0_big1 W a0 a1 len1 cap1 z1 w1.heads s1_
 obtain ⟨r1, i1, e1⟩ := w1.read (by omega)
 exact walk0 W a0 (wf_i64 w0) _ _ r1 i1 (by omega)
set_option maxRecDepth 100000 in
theorem lifted (os : Os) (started : os.Started) (H : Type) (enc : TypeId × Value → H) :
 ReturnsInHanded {} Tryz.checked os 5 .any (Rows.fnExactIsFreeBasisSpec.pre6 enc Tryz.prog Tryz.f5 Rows.fnExactIsFreeBasisRow.domain false) (Rows.fnExactIsFreeBasisSpec.post enc Tryz.prog Tryz.f5 false true false false) := by
 refine returnsInHanded_of_change (C := Tryz.checked) own started (by kernel_rfl) Tryz.func5
  (ChangeSpec.witness6 (enc := enc) (C := Tryz.checked) false ⟨#[], #[.int .i64 0, .slice none 0 0], []⟩ 8 (by kernel_rfl) (by kernel_rfl) (by kernel_rfl) (by kernel_rfl)) ?_
 intro W base args ds gs before hval0 hW hcnd _
 have hval : ∀ (j : Nat) t v, Tryz.f5.params[j]? = some t → args[j]? = some v → Value.okWide Tryz.prog W .any base t v := hval0
 have hW' := hW
 obtain ⟨p, q, hA0, hV, rfl, hfz, hnd⟩ := hW
 have hA : DataW.TrodAll enc Tryz.prog W 0 (fun _ => true) true Tryz.f5.params.toList args.toList ds p := hA0
 rw [Tryz.params5] at hA hval
 obtain ⟨v0, vs0, d0, ds0, p0, q0, hargs, rfl, rfl, h0, r0⟩ := trodAll_cons hA
 obtain ⟨v1, vs1, d1, ds1, p1, q1, rfl, rfl, rfl, h1, r1⟩ := trodAll_cons r0
 obtain ⟨rfl, rfl, rfl⟩ := trodAll_nil r1
 obtain rfl : args = #[v0, v1] := by cases args; simp_all
 obtain ⟨rfl, rfl⟩ := trodVars_none hV
 obtain ⟨a0, rfl, rfl, rfl, w0⟩ := open_int Tryz.underlying3 (hval 0 3 v0 rfl rfl) h0
 have k1 := h1
 have lt1 : ∀ x ∈ p1, x.block < W.heap.size := by obtain ⟨m, hm⟩ := k1; exact DataW.trod_lt m _ _ _ hm
 obtain ⟨a1, len1, cap1, z1, rfl, w1⟩ := open_words (hval 1 32 v1 rfl rfl) h1
 clear hA0 hval0
 refine (walk W a0 a1 len1 cap1 z1 w0 w1).mono fun e W' ⟨he, hg⟩ => ?_
 subst he
 exact ⟨_, rfl, _, _, _, [], _, [], hW', trodAll_mk1 (shut_bool Tryz.underlying4 _), (trodAll_cons_mk (shut_int Tryz.underlying3 w0) (trodAll_cons_mk (Below.trod laidOut (by kernel_rfl) (of_decide_eq_true (by kernel_rfl)) k1 hg lt1) trodAll_mk0)), rfl, hg.frame _, fun h => by cases h⟩
theorem over : Rows.fnExactIsFreeBasisRow.holds Tryz.pinned (OpenSpec.ofChange Rows.fnExactIsFreeBasisSpec) :=
 OpenClaim.holds_of_wide 5 Tryz.f5 rfl rfl rfl rfl rfl rfl rfl ⟨rfl, rfl, rfl, rfl, rfl⟩ rfl rfl rfl rfl rfl (by kernel_rfl) Tryz.func5 (by kernel_rfl)
  (of_decide_eq_true (by kernel_rfl)) (by unfold Func.isWrapper; first | (rw [if_pos (by decide +kernel)]; kernel_rfl) | (rw [if_neg (by decide +kernel)]; exact ⟨rfl, rfl⟩))
  (fun os started H enc _ => lifted os started H enc)
theorem proved : Rows.FnExactIsFreeBasisSaid := over
#print axioms proved
end Go.Proofs.YtpjlamnjiilgbaaGreat.fnExactIsFreeBasis
