/- For all arguments, ParseWord answers as its model and hands back memory of its own (laws.FnExactParseWord returns true and leaves its arguments as they are). Conditions: none beyond the row's. -/
import Derived.Test.YthjlemcnddkjgaaLW
import Derived.Test.YthjlemcnddkjgaaWQ
import Derived.WalkKit
import Derived.ProofKit
import Derived.OpenShut
import Derived.ShutString
import Derived.Below
namespace Go.Proofs.Ythjlemcnddkjgaa.fnExactParseWord
open Go.ChangeShapes Go.WideShapes Go.ChangeAt Go.RowKit
open Go.ChangeMaps (open_string shut_string)
set_option linter.unusedVariables false

theorem own : ownKnob Try.prog.godebug = none := by kernel_rfl

set_option maxHeartbeats 1600000 in
theorem walk0 (w : World) (a0 : Int) (a1 : ByteArray) (hs : a1.size ≤ 1048576) :
    Calls Try.prog 14 #[.int .i64 a0, .string a1] w fun e w' => e = .returned (.bool true) ∧ Below w.heap.size w w' := by
  have hbi : ¬ (1048576 : Int) < (a1.size : Int) := by omega
  obtain ⟨F, hF⟩ : ∃ F, F = parL a0 a1.data.toList := ⟨_, rfl⟩
  obtain ⟨b, hbv⟩ : ∃ b, b = parOk a0 a1.data.toList := ⟨_, rfl⟩
  have hflen : F.length ≤ 1000000000 := by
    rw [hF]
    have h1 := parL_length a0 a1.data.toList
    have h2 : a1.data.toList.length = a1.size := by simp
    omega
  have hspec := fun w => specPar w a0 a1 hs
  have himpl := fun w => parse_any w a0 a1 hs
  rw [← hF, ← hbv] at hspec himpl
  have hbb : (b != b) = false := by simp
  replace hF := hidI hF
  replace hbv := hidI hbv
  replace hspec := hidI hspec
  replace himpl := hidI himpl
  go_enter Try.func14, Try.ntmps14
  go_wp2_with fail
  refine (hspec.out w).mono ?_
  rintro e w1 ⟨g, rfl, hrow, hb1⟩
  have hg := hidI hrow
  have hs1 := hb1.size
  clear hrow
  go_wp2_with fail
  refine (himpl.out w1).mono ?_
  rintro e w2 ⟨g0, rfl, hrow, hbn⟩
  have hs2 := hbn.size
  replace hg := hidI (hg.out.below hbn (Nat.le_refl _))
  have hg0 := hidI hrow
  have hb2 := hb1.trans (hbn.mono hs1)
  clear hrow hbn
  go_wp2_with fail
  refine (eqIntS_law w2 g0 g F (hg0.out.read.mono (by omega)) (hg.out.read.mono (by omega))).mono ?_
  rintro e w3 ⟨rfl, hbn, hs3⟩
  have hb3 := hb2.trans (hbn.mono hb2.size)
  replace hg := hidI (hg.out.below hbn (by omega))
  replace hg0 := hidI (hg0.out.below hbn (by omega))
  clear hbn
  go_wp2_with fail
  refine (markIntS_any w3 w1.heap.size w2.heap.size g0 F 1 hg0.out (by omega) (by omega) (by omega)).mono ?_
  rintro e w4 ⟨rfl, hm, ho⟩
  have hb4 := hb3.trans (ho.below (by omega))
  have hs4 := ho.size
  replace hg := hidI (hg.out.only ho (by omega))
  replace hg0 := hidI hm
  clear hm ho
  obtain ⟨nf, hnf⟩ : ∃ nf, nf = F.length := ⟨_, rfl⟩
  have hnf2 : nf ≤ 1000000000 := by omega
  rw [← hnf]
  rw [← hnf] at hg0
  have hkf : decide ((1 + (nf : Int)) < 0) = false := by simp; omega
  have hkf2 : ¬ (1 + (nf : Int)) < 0 := by omega
  have hkf3 : ((1 + (nf : Int)) != (1 + (nf : Int))) = false := by simp
  replace hnf := hidI hnf
  go_wp2_with fail
  refine (heldIntS_any w4 w4.heap.size g0 nf 1 (hg0.out.read.mono (by omega)) (by omega) (by omega) (by omega)).mono ?_
  rintro e wz ⟨rfl, rfl⟩
  go_wp2_with fail
  refine (himpl.out w4).mono ?_
  rintro e w5 ⟨h0, rfl, hrow, hbn⟩
  have hs5 := hbn.size
  replace hg := hidI (hg.out.below hbn (by omega))
  replace hg0 := hidI (hg0.out.below hbn (by omega))
  have hh := hidI hrow
  have hb5 := hb4.trans (hbn.mono hb4.size)
  clear hrow hbn
  go_wp2_with fail
  refine (eqIntS_law w5 h0 g F (hh.out.read.mono (by omega)) (hg.out.read.mono (by omega))).mono ?_
  rintro e w6 ⟨rfl, hbn, hs6⟩
  have hb6 := hb5.trans (hbn.mono hb5.size)
  replace hg0 := hidI (hg0.out.below hbn (by omega))
  clear hbn
  go_wp2_with fail
  refine (heldIntS_any w6 w6.heap.size g0 nf 1 (hg0.out.read.mono (by omega)) (by omega) (by omega) (by omega)).mono ?_
  rintro e wz ⟨rfl, rfl⟩
  go_wp2_with fail
  go_ret
  exact ⟨rfl, hb6⟩
theorem walk (a0 : Int) (a1 : ByteArray) (w0 : (Lit.int .i64 a0).wf = true) (w1 : a1.size ≤ maxLen) (w : World) :
    Calls Try.prog 14 #[.int .i64 a0, .string a1] w fun e w' => e = .returned (.bool true) ∧ Below w.heap.size w w' := by
  unfold maxLen at w1
  by_cases hbig : 1048576 < a1.size
  · have hbi : (1048576 : Int) < (a1.size : Int) := by omega
    go_enter Try.func14, Try.ntmps14
    go_wp2
    go_ret
    exact ⟨rfl, Below.refl _ _⟩
  · exact walk0 w a0 a1 (by omega)

/-! ### The row's step -/
set_option maxRecDepth 100000 in
theorem lifted (os : Os) (started : os.Started) (H : Type) (enc : TypeId × Value → H) :
    ReturnsInHanded {} Try.checked os 14 .any (Rows.fnExactParseWordSpec.pre6 enc Try.prog Try.f14 Rows.fnExactParseWordRow.domain false) (Rows.fnExactParseWordSpec.post enc Try.prog Try.f14 false true false false) := by
  refine returnsInHanded_of_change (C := Try.checked) own started (by kernel_rfl) Try.func14
    (ChangeSpec.witness6 (enc := enc) (C := Try.checked) false ⟨#[], #[.int .i64 0, .string ByteArray.empty], []⟩ 8 (by kernel_rfl) (by kernel_rfl) (by kernel_rfl) (by kernel_rfl)) ?_
  intro W base args ds gs before hval0 hW hcnd _
  have hval : ∀ (j : Nat) t v, Try.f14.params[j]? = some t → args[j]? = some v → Value.okWide Try.prog W .any base t v := hval0
  have hW' := hW
  obtain ⟨p, q, hA0, hV, rfl, hfz, hnd⟩ := hW
  have hA : DataW.TrodAll enc Try.prog W 0 (fun _ => true) true Try.f14.params.toList args.toList ds p := hA0
  rw [Try.params14] at hA hval
  obtain ⟨v0, vs0, d0, ds0, p0, q0, hargs, rfl, rfl, h0, r0⟩ := trodAll_cons hA
  obtain ⟨v1, vs1, d1, ds1, p1, q1, rfl, rfl, rfl, h1, r1⟩ := trodAll_cons r0
  obtain ⟨rfl, rfl, rfl⟩ := trodAll_nil r1
  obtain rfl : args = #[v0, v1] := by cases args; simp_all
  obtain ⟨rfl, rfl⟩ := trodVars_none hV
  obtain ⟨a0, rfl, rfl, rfl, w0⟩ := open_int Try.underlying3 (hval 0 3 v0 rfl rfl) h0
  obtain ⟨a1, rfl, rfl, rfl, w1⟩ := open_string Try.underlying9 (hval 1 9 v1 rfl rfl) h1
  clear hA0 hval0
  simp only [List.append_nil] at hW'
  refine (walk a0 a1 w0 w1 W).mono fun e W' ⟨he, hg⟩ => ?_
  subst he
  exact ⟨_, rfl, _, _, _, [], [], [], hW', trodAll_mk1 (shut_bool Try.underlying4 _), (trodAll_cons_mk (shut_int Try.underlying3 w0) (trodAll_cons_mk (shut_string Try.underlying9 w1) trodAll_mk0)), rfl, hg.frame _, fun h => by cases h⟩

theorem over : Rows.fnExactParseWordRow.holds Try.pinned (OpenSpec.ofChange Rows.fnExactParseWordSpec) :=
  OpenClaim.holds_of_wide 14 Try.f14 rfl rfl rfl rfl rfl rfl rfl ⟨rfl, rfl, rfl, rfl, rfl⟩ rfl rfl rfl rfl rfl (by kernel_rfl) Try.func14 (by kernel_rfl)
    (of_decide_eq_true (by kernel_rfl)) (by unfold Func.isWrapper; first | (rw [if_pos (by decide +kernel)]; kernel_rfl) | (rw [if_neg (by decide +kernel)]; exact ⟨rfl, rfl⟩))
    (fun os started H enc _ => lifted os started H enc)

theorem proved : Rows.FnExactParseWordSaid := over
#print axioms proved
end Go.Proofs.Ythjlemcnddkjgaa.fnExactParseWord
