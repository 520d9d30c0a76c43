/- For every list of words, laws.FnExactFormatWords returns true and leaves its arguments as they are: the program's text is the model's. Conditions: none beyond the row's. -/
import Derived.Test.YtmafaglgegimfaaLW3
import Derived.Test.YtmafaglgegimfaaSEn
import Derived.WalkKit
import Derived.ProofKit
import Derived.OpenShut
import Derived.ShutString
import Derived.Below
namespace Go.Proofs.Ytmafaglgegimfaa.fnExactFormatWords
open Go.ChangeShapes Go.WideShapes Go.ChangeAt Go.RowKit
open Go.ChangeMaps (open_string shut_string)
set_option linter.unusedVariables false

theorem own : ownKnob Try.prog.godebug = none := by kernel_rfl

theorem laidOut : laidOutB Try.prog = true := by kernel_rfl
theorem walk0_big0 (w : World) (a0 : Option Addr) (len0 cap0 : Nat) (z0 : List (List Int)) (hd0 : HeadsW w (.slice a0 len0 cap0) (z0.map List.length)) (hbig : 1048576 < (z0.length + sumN (z0.map List.length))) :
    Calls Try.prog 9 #[.slice a0 len0 cap0] w fun e w' => e = .returned (.bool true) ∧ Below w.heap.size w w' := by
  replace hbig := hidI hbig
  replace hd0 := hidI hd0
  go_enter Try.func9, Try.ntmps9
  go_wp2_with fail
  refine (szSS_law w _ z0 1048576 hd0.out (by omega) (by omega)).mono ?_
  rw [if_pos (by have := hbig.out; omega)]
  rintro e wz ⟨rfl, rfl⟩
  go_wp2
  go_ret
  exact ⟨rfl, Below.refl _ _⟩
set_option maxHeartbeats 3200000 in
theorem walk0 (w : World) (v0 : Value) (z0 : List (List Int)) (h0 : ReadSS w.heap.size w v0 z0) (i0 : ∀ zs ∈ z0, InR zs) (lw : (z0.length + sumN (z0.map List.length)) ≤ 1048576) :
    Calls Try.prog 9 #[v0] w fun e w' => e = .returned (.bool true) ∧ Below w.heap.size w w' := by
  have hr0 := hidI h0
  have hd0 := hidI h0.heads
  obtain ⟨_, ad0, cap0, rfl, hq1, hq2⟩ := h0
  clear hq1 hq2
  replace i0 := hidI i0
  have hzl0 := hidI (words_le (zss := z0) (by omega))
  obtain ⟨F0, hF0⟩ : ∃ F, F = textWs z0 := ⟨_, rfl⟩
  have heq0 : (F0.toList == F0.toList) = true := by simp
  have hne0 : (F0.toList != F0.toList) = false := by simp
  replace hF0 := hidI hF0
  have hbw := Below.refl w.heap.size w
  go_enter Try.func9, Try.ntmps9
  go_wp2_with fail
  refine (szSS_law w _ z0 1048576 hd0.out (by omega) (by omega)).mono ?_
  rw [if_neg (by omega)]
  rintro e wz ⟨rfl, rfl⟩
  have hleft0 : ¬ (1048576 - ((z0.length : Int) + (sumN (z0.map List.length) : Nat))) < 0 := by omega
  go_wp2_with fail
  refine (toSS_any w _ z0 ((hr0.out.below hbw).mono hbw.size) (by omega) hzl0.out).mono ?_
  rintro e w1' ⟨u0, u0u, rfl, hrow, hbn⟩
  have hb1 := hbw.trans (hbn.mono hbw.size)
  have hs1 := hbn.size
  clear hbn
  have hu0 := hidI hrow
  clear hrow
  go_wp2_with fail
  refine (sFmtWs w1' _ z0 (hu0.out.read.mono (by omega)) (by unfold totL; omega)).mono ?_
  intro e w2' hpost
  rw [← hF0.out] at hpost
  obtain ⟨rfl, hbn⟩ := hpost
  have hb2 := hb1.trans (hbn.mono hb1.size)
  have hs2 := hbn.size
  replace hu0 := hidI (hu0.out.below hbn (by omega))
  clear hbn
  clear hu0
  go_wp2_with fail
  refine (toSS_any w2' _ z0 ((hr0.out.below hb2).mono hb2.size) (by omega) hzl0.out).mono ?_
  rintro e w3' ⟨x0, x0u, rfl, hrow, hbn⟩
  have hb3 := hb2.trans (hbn.mono hb2.size)
  have hs3 := hbn.size
  clear hbn
  have hx0 := hidI hrow
  clear hrow
  go_wp2_with fail
  refine (iFmtWs w3' _ z0 (hx0.out.read.mono (by omega)) (by unfold totL; omega)).mono ?_
  intro e w4' hpost
  rw [← hF0.out] at hpost
  obtain ⟨rfl, hbn⟩ := hpost
  have hb4 := hb3.trans (hbn.mono hb3.size)
  have hs4 := hbn.size
  replace hx0 := hidI (hx0.out.below hbn (by omega))
  clear hbn
  go_wp2_with fail
  refine (toSS_any w4' _ z0 ((hr0.out.below hb4).mono hb4.size) (by omega) hzl0.out).mono ?_
  rintro e w5' ⟨t0, t0u, rfl, hrow, hbn⟩
  have hb5 := hb4.trans (hbn.mono hb4.size)
  have hs5 := hbn.size
  replace hx0 := hidI (hx0.out.below hbn (by omega))
  clear hbn
  have ht0 := hidI hrow
  clear hrow
  go_wp2_with fail
  refine (eqSS_law w5' x0 t0 z0 (hx0.out.read.mono (by omega)) (ht0.out.read.mono (by omega))).mono ?_
  rintro e w6' ⟨rfl, hbn, hzz⟩
  clear hzz
  have hb6 := hb5.trans (hbn.mono hb5.size)
  have hs6 := hbn.size
  replace hx0 := hidI (hx0.out.below hbn (by omega))
  replace ht0 := hidI (ht0.out.below hbn (by omega))
  clear hbn
  clear ht0
  go_wp2_with fail
  go_ret
  exact ⟨rfl, hb6⟩
theorem walk (W : World) (a0 : Option Addr) (len0 cap0 : Nat) (z0 : List (List Int)) (w0 : IsRowW W a0 len0 cap0 z0) :
    Calls Try.prog 9 #[.slice a0 len0 cap0] W fun e w' => e = .returned (.bool true) ∧ Below W.heap.size W w' := by
  by_cases s0_ : 1048576 < (z0.length + sumN (z0.map List.length))
  · exact walk0_big0 W a0 len0 cap0 z0 w0.heads s0_
  obtain ⟨r0, i0, e0⟩ := w0.read (by omega)
  exact walk0 W _ _ r0 i0 (by omega)

/-! ### The row's step -/
set_option maxRecDepth 100000 in
theorem lifted (os : Os) (started : os.Started) (H : Type) (enc : TypeId × Value → H) :
    ReturnsInHanded {} Try.checked os 9 .any (Rows.fnExactFormatWordsSpec.pre6 enc Try.prog Try.f9 Rows.fnExactFormatWordsRow.domain false) (Rows.fnExactFormatWordsSpec.post enc Try.prog Try.f9 false true false false) := by
  refine returnsInHanded_of_change (C := Try.checked) own started (by kernel_rfl) Try.func9
    (ChangeSpec.witness6 (enc := enc) (C := Try.checked) false ⟨#[], #[.slice none 0 0], []⟩ 8 (by kernel_rfl) (by kernel_rfl) (by kernel_rfl) (by kernel_rfl)) ?_
  intro W base args ds gs before hval0 hW hcnd _
  have hval : ∀ (j : Nat) t v, Try.f9.params[j]? = some t → args[j]? = some v → Value.okWide Try.prog W .any base t v := hval0
  have hW' := hW
  obtain ⟨p, q, hA0, hV, rfl, hfz, hnd⟩ := hW
  have hA : DataW.TrodAll enc Try.prog W 0 (fun _ => true) true Try.f9.params.toList args.toList ds p := hA0
  rw [Try.params9] at hA hval
  obtain ⟨v0, vs0, d0, ds0, p0, q0, hargs, rfl, rfl, h0, r0⟩ := trodAll_cons hA
  obtain ⟨rfl, rfl, rfl⟩ := trodAll_nil r0
  obtain rfl : args = #[v0] := by cases args; simp_all
  obtain ⟨rfl, rfl⟩ := trodVars_none hV
  have k0 := h0
  have lt0 : ∀ x ∈ p0, x.block < W.heap.size := by obtain ⟨m, hm⟩ := k0; exact DataW.trod_lt m _ _ _ hm
  obtain ⟨a0, len0, cap0, z0, rfl, w0⟩ := open_words (hval 0 26 v0 rfl rfl) h0
  clear hA0 hval0
  refine (walk W a0 len0 cap0 z0 w0).mono fun e W' ⟨he, hg⟩ => ?_
  subst he
  exact ⟨_, rfl, _, _, _, [], _, [], hW', trodAll_mk1 (shut_bool Try.underlying4 _), (trodAll_cons_mk (Below.trod laidOut (by kernel_rfl) (of_decide_eq_true (by kernel_rfl)) k0 hg lt0) trodAll_mk0), rfl, hg.frame _, fun h => by cases h⟩

theorem over : Rows.fnExactFormatWordsRow.holds Try.pinned (OpenSpec.ofChange Rows.fnExactFormatWordsSpec) :=
  OpenClaim.holds_of_wide 9 Try.f9 rfl rfl rfl rfl rfl rfl rfl ⟨rfl, rfl, rfl, rfl, rfl⟩ rfl rfl rfl rfl rfl (by kernel_rfl) Try.func9 (by kernel_rfl)
    (of_decide_eq_true (by kernel_rfl)) (by unfold Func.isWrapper; first | (rw [if_pos (by decide +kernel)]; kernel_rfl) | (rw [if_neg (by decide +kernel)]; exact ⟨rfl, rfl⟩))
    (fun os started H enc _ => lifted os started H enc)

theorem proved : Rows.FnExactFormatWordsSaid := over
#print axioms proved
end Go.Proofs.Ytmafaglgegimfaa.fnExactFormatWords
