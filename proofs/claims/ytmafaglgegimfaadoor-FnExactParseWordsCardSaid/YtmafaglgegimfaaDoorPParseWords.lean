/- For every int and text, laws.FnExactParseWords returns true: the program's words, and whether there are any, are the model's, in memory of its own. Conditions: none beyond the row's. -/
import Derived.Test.YtmafaglgegimfaaDoorLW2
import Derived.Test.YtmafaglgegimfaaDoorSPn
import Derived.Test.YtmafaglgegimfaaDoorTie
import Derived.Test.YtmafaglgegimfaaDoorCards
import Derived.WalkKit
import Derived.ProofKit
import Derived.OpenShut
import Derived.ShutString
import Derived.Below
import Derived.LaidMore
import Derived.Stop.Joined
import Derived.SevenTiedAt
import Derived.Lib.LaidTab
import Derived.Lib.AppendIntMem
import Derived.Deep.DeepCutAuto
namespace Go.Proofs.YtmafaglgegimfaaDoor.fnExactParseWords
open Go.ChangeShapes Go.WideShapes Go.ChangeAt Go.RowKit
open Go.ChangeMaps (open_string shut_string)
set_option linter.unusedVariables false

theorem own : ownKnob Tryd.prog.godebug = none := by kernel_rfl

theorem laidOut : laidOutB Tryd.prog = true := by kernel_rfl
theorem walk0_big1 (w : World) (a0 : Int) (a1 : ByteArray) (m1 : (a1.size : Int) ≤ 9223372036854775807) (hbig : 1048576 < a1.size) :
    Calls Tryd.prog 3 #[.int .i64 a0, .string a1] w fun e w' => e = .returned (.bool true) ∧ Below w.heap.size w w' := by
  have hbi : (1048576 : Int) < (a1.size : Int) := by omega
  go_enter Tryd.func3, Tryd.ntmps3
  go_wp2
  go_ret
  exact ⟨rfl, Below.refl _ _⟩
set_option maxHeartbeats 3200000 in
theorem walk0 (w : World) (mx : Int) (hmx : w.cell? ⟨0, 0, none⟩ = some (.int .i64 mx)) (a0 : Int) (w0 : -9223372036854775808 ≤ a0 ∧ a0 ≤ 9223372036854775807) (a1 : ByteArray) (l1 : a1.size ≤ 1048576) :
    Calls Tryd.prog 3 #[.int .i64 a0, .string a1] w fun e w' => e = .returned (.bool true) ∧ Below w.heap.size w w' := by
  have hbi1 : ¬ (1048576 : Int) < (a1.size : Int) := by omega
  obtain ⟨F0, hF0⟩ : ∃ F, F = pwL a0 a1.data.toList := ⟨_, rfl⟩
  have hfl0 : F0.length ≤ 1000000000 ∧ sumN (F0.map List.length) ≤ 100000000 := by rw [hF0]; exact pw_le a0 a1 l1
  obtain ⟨hfl0, hfs0⟩ := hfl0
  replace hF0 := hidI hF0
  obtain ⟨F1, hF1⟩ : ∃ F, F = pwOk a0 a1.data.toList := ⟨_, rfl⟩
  have hne1 : (F1 != F1) = false := by simp
  have heq1 : (F1 == F1) = true := by simp
  replace hF1 := hidI hF1
  replace hmx := hidI hmx
  have hbw := Below.refl w.heap.size w
  go_enter Tryd.func3, Tryd.ntmps3
  go_wp2_with fail
  refine (specParWs w a0 a1 l1).mono ?_
  intro e w1' hpost
  rw [← hF0.out, ← hF1.out] at hpost
  obtain ⟨m0, m0u, rfl, hrow0, hbn⟩ := hpost
  have hb1 := hbw.trans (hbn.mono hbw.size)
  have hs1 := hbn.size
  clear hbn
  have hm0 := hidI hrow0
  clear hrow0
  go_wp2_with fail
  refine (iParWs2 w w1' hb1 a0 a1 l1 mx hmx.out).mono ?_
  intro e w2' hpost
  rw [← hF0.out, ← hF1.out] at hpost
  obtain ⟨g0, g0u, rfl, hrow0, hbn⟩ := hpost
  have hb2 := hb1.trans (hbn.mono hb1.size)
  have hs2 := hbn.size
  replace hm0 := hidI (hm0.out.below hbn (by omega))
  clear hbn
  have hg0 := hidI hrow0
  clear hrow0
  go_wp2_with fail
  refine (eqSS_law w2' g0 m0 F0 (hg0.out.read.mono (by omega)) (hm0.out.read.mono (by omega))).mono ?_
  rintro e w3' ⟨rfl, hbn, hzz⟩
  clear hzz
  have hb3 := hb2.trans (hbn.mono hb2.size)
  have hs3 := hbn.size
  replace hm0 := hidI (hm0.out.below hbn (by omega))
  replace hg0 := hidI (hg0.out.below hbn (by omega))
  clear hbn
  go_wp2_with fail
  refine (markSS_any w3' (w1'.heap.size) (w2'.heap.size) g0 _ F0 1 hg0.out (by omega) (by omega)).mono ?_
  rintro e w4' ⟨rfl, hm, ho⟩
  have hb4 := hb3.trans (ho.below (by omega))
  have hs4 : w3'.heap.size ≤ w4'.heap.size := by have := ho.size; omega
  replace hm0 := hidI (hm0.out.only ho (by omega))
  clear ho
  have hk0 := hidI hm
  clear hm hg0
  have hk0f : decide ((1 + (sumN (F0.map List.length) : Nat)) < 0) = false := by rw [decide_eq_false_iff_not]; omega
  have hk0g : ¬ (1 + (sumN (F0.map List.length) : Nat)) < 0 := by omega
  have hkq : ((1 + (sumN (F0.map List.length) : Nat)) != (1 + (sumN (F0.map List.length) : Nat))) = false := by simp
  go_wp2_with fail
  refine (heldSS_any w4' w4'.heap.size g0 (F0.map List.length) 1 (hk0.out.read.mono (by omega)) (by omega) (by omega)).mono ?_
  rintro e wz ⟨rfl, rfl⟩
  go_wp2_with fail
  refine (iParWs2 w w4' hb4 a0 a1 l1 mx hmx.out).mono ?_
  intro e w5' hpost
  rw [← hF0.out, ← hF1.out] at hpost
  obtain ⟨q0, q0u, rfl, hrow0, hbn⟩ := hpost
  have hb5 := hb4.trans (hbn.mono hb4.size)
  have hs5 := hbn.size
  replace hm0 := hidI (hm0.out.below hbn (by omega))
  replace hk0 := hidI (hk0.out.below hbn (by omega))
  clear hbn
  have hq0 := hidI hrow0
  clear hrow0
  go_wp2_with fail
  refine (eqSS_law w5' q0 m0 F0 (hq0.out.read.mono (by omega)) (hm0.out.read.mono (by omega))).mono ?_
  rintro e w6' ⟨rfl, hbn, hzz⟩
  clear hzz
  have hb6 := hb5.trans (hbn.mono hb5.size)
  have hs6 := hbn.size
  replace hm0 := hidI (hm0.out.below hbn (by omega))
  replace hk0 := hidI (hk0.out.below hbn (by omega))
  replace hq0 := hidI (hq0.out.below hbn (by omega))
  clear hbn
  go_wp2_with fail
  refine (heldSS_any w6' w6'.heap.size g0 (F0.map List.length) 1 (hk0.out.read.mono (by omega)) (by omega) (by omega)).mono ?_
  rintro e wz ⟨rfl, rfl⟩
  go_wp2_with fail
  go_ret
  exact ⟨rfl, hb6⟩
theorem walk (a0 : Int) (a1 : ByteArray)  (W : World) (w0 : (Lit.int .i64 a0).wf = true) (w1 : a1.size ≤ maxLen) (mx : Int) (hmx : W.cell? ⟨0, 0, none⟩ = some (.int .i64 mx)) :
    Calls Tryd.prog 3 #[.int .i64 a0, .string a1] W fun e w' => e = .returned (.bool true) ∧ Below W.heap.size W w' := by
  by_cases s1_ : 1048576 < a1.size
  · exact walk0_big1 W a0 a1 (by have := w1; unfold maxLen at this; omega) s1_
  exact walk0 W mx hmx a0 (wf_i64 w0) a1 (by omega)

/-! ### The row's step -/
noncomputable def laidW (os : Os) : World :=
  let w0 := World.doorLaid Tryd.prog 19 os
  { w0 with heap := w0.heap.modify 1 fun
    | .cells _ t frozen => .cells (Go.Pinned.utf8FirstZ.map fun (z : Nat) => Value.int .u8 (z : Int)).toArray t frozen
    | o => o }
theorem door_met (os : Os) (args : Array Value) : laidMetH Tryd.prog Rows.fnExactParseWordsRow.laid ((laidW os).forCall (fun _ _ => 0) ⟨#[], args, []⟩).memory :=
  laidMetH_of_parts3 (fuel := 8) (laidMet_of_run' 8 (by kernel_rfl) (by kernel_rfl)) (by kernel_rfl) (by kernel_rfl)

set_option maxRecDepth 100000 in
theorem lifted (os : Os) (started : os.Started) (H : Type) (enc : TypeId × Value → H) :
    ReturnsInHanded {} Tryd.checked os 3 .any (fun w args => (Rows.fnExactParseWordsSpec.pre enc Tryd.prog Tryd.f3 [] false w args ∧ laidMetH Tryd.prog Rows.fnExactParseWordsRow.laid w) ∧ sizedMet enc Tryd.prog Tryd.f3 (OpenSpec.ofChange Rows.fnExactParseWordsSpec) false w args)
      (Rows.fnExactParseWordsSpec.post enc Tryd.prog Tryd.f3 false true false false) := by
  refine handed_shaped (C := Tryd.checked) (X := fun w _ => laidMetH Tryd.prog Rows.fnExactParseWordsRow.laid w) (fun _ _ _ hh h => h.of_heap hh) own started (by kernel_rfl) Tryd.func3
    (ChangeSpec.witness_shaped (enc := enc) (C := Tryd.checked) (os := os) (X := fun w _ => laidMetH Tryd.prog Rows.fnExactParseWordsRow.laid w) false (laidW os) #[.int .i64 0, .string ByteArray.empty] 8 rfl (World.shaped_of_RefB (by kernel_rfl) (by kernel_rfl)) (by kernel_rfl) (by kernel_rfl) (by kernel_rfl) (door_met os _)) ?_
  intro W base args ds gs before hval0 hW hL hsh
  have hval : ∀ (j : Nat) t v, Tryd.f3.params[j]? = some t → args[j]? = some v → Value.okWide Tryd.prog W .any base t v := hval0
  have hW' := hW
  obtain ⟨p, q, hA0, hV, rfl, hfz, hnd⟩ := hW
  have hA : DataW.TrodAll enc Tryd.prog W 0 (fun _ => true) true Tryd.f3.params.toList args.toList ds p := hA0
  rw [Tryd.params3] at hA hval
  obtain ⟨v0, vs0, d0, ds0, p0, q0, hargs, rfl, rfl, h0, r0⟩ := trodAll_cons hA
  obtain ⟨v1, vs1, d1, ds1, p1, q1, rfl, rfl, rfl, h1, r1⟩ := trodAll_cons r0
  obtain ⟨rfl, rfl, rfl⟩ := trodAll_nil r1
  obtain rfl : args = #[v0, v1] := by cases args; simp_all
  obtain ⟨rfl, rfl⟩ := trodVars_none hV
  obtain ⟨a0, rfl, rfl, rfl, w0⟩ := open_int Tryd.underlying3 (hval 0 3 v0 rfl rfl) h0
  obtain ⟨a1, rfl, rfl, rfl, w1⟩ := open_string Tryd.underlying9 (hval 1 9 v1 rfl rfl) h1
  clear hA0 hval0
  simp only [List.append_nil] at hW'
  obtain ⟨mx, hmx⟩ := cellMax hsh
  refine (walk a0 a1 W w0 w1 mx hmx).mono fun e W' ⟨he, hg⟩ => ?_
  subst he
  exact ⟨_, rfl, _, _, _, [], [], [], hW', trodAll_mk1 (shut_bool Tryd.underlying4 _), (trodAll_cons_mk (shut_int Tryd.underlying3 w0) (trodAll_cons_mk (shut_string Tryd.underlying9 w1) trodAll_mk0)), rfl, hg.frame _, fun h => by cases h⟩

theorem over : Rows.FnExactParseWordsSaid :=
  OpenClaim.holds_of_wide 3 Tryd.f3 rfl rfl rfl rfl rfl rfl rfl ⟨rfl, rfl, rfl, rfl, rfl⟩ rfl rfl rfl rfl rfl (by kernel_rfl) Tryd.func3 (by kernel_rfl)
    (of_decide_eq_true (by kernel_rfl)) (by unfold Func.isWrapper; first | (rw [if_pos (by decide +kernel)]; kernel_rfl) | (rw [if_neg (by decide +kernel)]; exact ⟨rfl, rfl⟩))
    (fun os started H enc _ => lifted os started H enc)

theorem proved : Rows.FnExactParseWordsCardSaid :=
  Claim7.holds_tied_plain_at .later [] [.data, .pinned] true (true, "f11cdd1f400f66b584f28fda23588e1b91ca4444d9d1f58cd6dd4de1f36bfe92") false
    over (fun _ h => by cases h) (by kernel_rfl) (fun _ h => by cases h) fnExactParseWords_row_tie rfl ⟨rfl, rfl⟩ (by kernel_rfl) rfl
    (fun f fn hf hfn => by
      obtain rfl : f = 3 := Option.some.inj ((show Tryd.prog.funcNamed "loop.example/g02075/laws.FnExactParseWords" = some 3 by kernel_rfl).symm.trans hf) |>.symm
      obtain rfl : fn = Tryd.f3 := (Option.some.inj (Tryd.func3.symm.trans hfn)).symm
      exact ⟨by kernel_rfl, fun j t ht => by
        rw [Tryd.params3] at ht
        have hm : t ∈ [3, 9] := by simpa using Array.mem_of_getElem? ht
        have hall : ([3, 9].all fun u => !Tryd.prog.wantsStandIn u) = true := by kernel_rfl
        exact (show Tryd.prog.wantsStandIn t = false by simpa using List.all_eq_true.1 hall t hm)⟩)
    (by kernel_rfl)
#print axioms proved
end Go.Proofs.YtmafaglgegimfaaDoor.fnExactParseWords
