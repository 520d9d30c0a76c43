/- For every slice of ints and every int, laws.FnExactRotateWord returns true and leaves its arguments as they are: the program's rotation is the model's, in memory of its own. Conditions: none beyond the row's. -/
import Derived.Test.YtcjkgknmpgehbaaLW2
import Derived.Test.YtcjkgknmpgehbaaWY5
import Derived.Test.YtcjkgknmpgehbaaWPN
import Derived.WalkKit
import Derived.ProofKit
import Derived.OpenShut
import Derived.ShutString
import Derived.Below
namespace Go.Proofs.Ytcjkgknmpgehbaa.fnExactRotateWord
open Go.ChangeShapes Go.WideShapes Go.ChangeAt Go.RowKit
open Go.ChangeMaps (open_string shut_string)
set_option linter.unusedVariables false

theorem own : ownKnob Try.prog.godebug = none := by kernel_rfl

theorem laidOut : laidOutB Try.prog = true := by kernel_rfl
theorem walk0_big0 (w : World) (a0 : Option Addr) (len0 cap0 : Nat) (a1 : Int) (hm : len0 ≤ 9223372036854775807) (h : 1048576 < len0) :
    Calls Try.prog 6 #[.slice a0 len0 cap0, .int .i64 a1] w fun e w' => e = .returned (.bool true) ∧ Below w.heap.size w w' := by
  have hbi : (1048576 : Int) < (len0 : Int) := by omega
  go_enter Try.func6, Try.ntmps6
  go_wp2
  go_ret
  exact ⟨rfl, Below.refl _ _⟩
set_option maxHeartbeats 3200000 in
theorem walk0 (w : World) (v0 : Value) (z0 : List Int) (h0 : ReadI w.heap.size w v0 z0) (i0 : InR z0) (l0 : z0.length ≤ 1048576) (a1 : Int) (w1 : (Lit.int .i64 a1).wf = true) :
    Calls Try.prog 6 #[v0, .int .i64 a1] w fun e w' => e = .returned (.bool true) ∧ Below w.heap.size w w' := by
  have hr0 := hidI h0
  obtain ⟨hl0, ad0, cap0, rfl, hq1, hq2⟩ := h0
  clear hq1 hq2
  have hlen0 := hidI l0
  obtain ⟨n0, hn0⟩ : ∃ n, n = z0.length := ⟨_, rfl⟩
  rw [← hn0] at hl0 hr0 l0 ⊢
  have hbi0 : ¬ (1048576 : Int) < (n0 : Int) := by omega
  replace i0 := hidI i0
  replace hn0 := hidI hn0
  have hw1 := bounds_i64 w1
  obtain ⟨F0, hF0⟩ : ∃ F, F = rotL z0 a1 := ⟨_, rfl⟩
  have hfl0 : F0.length ≤ 1000000000 := by rw [hF0]; have := hlen0.out; rw [rotL_length]; omega
  replace hF0 := hidI hF0
  go_enter Try.func6, Try.ntmps6
  have hbw := Below.refl w.heap.size w
  go_wp2_with fail
  refine (toIntS_any w _ z0 ((hr0.out.below hbw).mono hbw.size) (by have := hlen0.out; omega)).mono ?_
  rintro e w1' ⟨u0, rfl, hrow, hbn⟩
  have hb1 := hbw.trans (hbn.mono hbw.size)
  have hs1 := hbn.size
  clear hbn
  have hu0 := hidI hrow
  clear hrow
  go_wp2_with fail
  refine (specRot w1' u0 z0 a1 (hu0.out.read.mono (by omega)) (by have := hlen0.out; omega) (by omega) (by omega)).mono ?_
  rw [← hF0.out]
  rintro e w2' ⟨m0, rfl, hrow, hbn⟩
  have hb2 := hb1.trans (hbn.mono hb1.size)
  have hs2 := hbn.size
  replace hu0 := hidI (hu0.out.below hbn (by omega))
  clear hbn
  have hm0 := hidI hrow
  clear hrow
  clear hu0
  go_wp2_with fail
  refine (toIntS_any w2' _ z0 ((hr0.out.below hb2).mono hb2.size) (by have := hlen0.out; omega)).mono ?_
  rintro e w3' ⟨x0, rfl, hrow, hbn⟩
  have hb3 := hb2.trans (hbn.mono hb2.size)
  have hs3 := hbn.size
  replace hm0 := hidI (hm0.out.below hbn (by omega))
  clear hbn
  have hx0 := hidI hrow
  clear hrow
  go_wp2_with fail
  refine (iRot w3' x0 z0 a1 (hx0.out.read.mono (by omega)) (by have := hlen0.out; omega) (by omega) (by omega)).mono ?_
  rw [← hF0.out]
  rintro e w4' ⟨g0, rfl, hrow, hbn⟩
  have hb4 := hb3.trans (hbn.mono hb3.size)
  have hs4 := hbn.size
  replace hm0 := hidI (hm0.out.below hbn (by omega))
  replace hx0 := hidI (hx0.out.below hbn (by omega))
  clear hbn
  have hg0 := hidI hrow
  clear hrow
  go_wp2_with fail
  refine (eqIntS_law w4' g0 m0 F0 (hg0.out.read.mono (by omega)) (hm0.out.read.mono (by omega))).mono ?_
  rintro e w5' ⟨rfl, hbn, hz5⟩
  have hb5 := hb4.trans (hbn.mono hb4.size)
  have hs5 := hbn.size
  replace hm0 := hidI (hm0.out.below hbn (by omega))
  replace hx0 := hidI (hx0.out.below hbn (by omega))
  replace hg0 := hidI (hg0.out.below hbn (by omega))
  clear hbn
  go_wp2_with fail
  refine (toIntS_any w5' _ z0 ((hr0.out.below hb5).mono hb5.size) (by have := hlen0.out; omega)).mono ?_
  rintro e w6' ⟨t0, rfl, hrow, hbn⟩
  have hb6 := hb5.trans (hbn.mono hb5.size)
  have hs6 := hbn.size
  replace hm0 := hidI (hm0.out.below hbn (by omega))
  replace hx0 := hidI (hx0.out.below hbn (by omega))
  replace hg0 := hidI (hg0.out.below hbn (by omega))
  clear hbn
  have ht0 := hidI hrow
  clear hrow
  go_wp2_with fail
  refine (eqIntS_law w6' x0 t0 z0 (hx0.out.read.mono (by omega)) (ht0.out.read.mono (by omega))).mono ?_
  rintro e w7' ⟨rfl, hbn, hz7⟩
  have hb7 := hb6.trans (hbn.mono hb6.size)
  have hs7 := hbn.size
  replace hm0 := hidI (hm0.out.below hbn (by omega))
  replace hx0 := hidI (hx0.out.below hbn (by omega))
  replace hg0 := hidI (hg0.out.below hbn (by omega))
  replace ht0 := hidI (ht0.out.below hbn (by omega))
  clear hbn
  clear ht0
  have hlz : (z0.length : Int) ≤ 10000000 := by have := hlen0.out; omega
  go_wp2_with fail
  refine (markIntS_any w7' (w2'.heap.size) (w3'.heap.size) x0 z0 1 hx0.out (by omega) (by omega) (by have := hlen0.out; omega)).mono ?_
  rintro e w8' ⟨rfl, hm, ho⟩
  have hb8 := hb7.trans (ho.below (by have := hb1.size; omega))
  have hs8 := ho.size
  replace hm0 := hidI (hm0.out.only ho (by omega))
  replace hg0 := hidI (hg0.out.only ho (by omega))
  clear hm ho hx0
  have hkk : decide ((1 + (z0.length : Int)) < 0) = false := by simp; omega
  have hkk2 : ¬ (1 + (z0.length : Int)) < 0 := by omega
  go_wp2_with fail
  refine (eqIntS_law w8' g0 m0 F0 (hg0.out.read.mono (by omega)) (hm0.out.read.mono (by omega))).mono ?_
  rintro e w9' ⟨rfl, hbn, hz9⟩
  have hb9 := hb8.trans (hbn.mono hb8.size)
  have hs9 := hbn.size
  replace hm0 := hidI (hm0.out.below hbn (by omega))
  replace hg0 := hidI (hg0.out.below hbn (by omega))
  clear hbn
  go_wp2_with fail
  refine (markIntS_any w9' (w3'.heap.size) (w4'.heap.size) g0 F0 1 hg0.out (by omega) (by omega) (by omega)).mono ?_
  rintro e w10' ⟨rfl, hm, ho⟩
  have hb10 := hb9.trans (ho.below (by have := hb1.size; omega))
  have hs10 := ho.size
  replace hm0 := hidI (hm0.out.only ho (by omega))
  replace hg0 := hidI hm
  clear hm ho
  obtain ⟨nf0, hnf0⟩ : ∃ nf, nf = F0.length := ⟨_, rfl⟩
  have hnl0 : nf0 ≤ 1000000000 := by omega
  rw [← hnf0]
  rw [← hnf0] at hg0
  replace hnf0 := hidI hnf0
  have hk0f : decide ((1 + (nf0 : Int)) < 0) = false := by simp; omega
  have hk0g : ¬ (1 + (nf0 : Int)) < 0 := by omega
  have hkq : ((1 + (nf0 : Int)) != (1 + (nf0 : Int))) = false := by simp
  go_wp2_with fail
  refine (heldIntS_any w10' w10'.heap.size g0 nf0 1 (hg0.out.read.mono (by omega)) (by omega) (by omega) (by omega)).mono ?_
  rintro e wz ⟨rfl, rfl⟩
  go_wp2_with fail
  refine (toIntS_any w10' _ z0 ((hr0.out.below hb10).mono hb10.size) (by have := hlen0.out; omega)).mono ?_
  rintro e w11' ⟨y0, rfl, hrow, hbn⟩
  have hb11 := hb10.trans (hbn.mono hb10.size)
  have hs11 := hbn.size
  replace hm0 := hidI (hm0.out.below hbn (by omega))
  replace hg0 := hidI (hg0.out.below hbn (by omega))
  clear hbn
  have hy0 := hidI hrow
  clear hrow
  go_wp2_with fail
  refine (iRot w11' y0 z0 a1 (hy0.out.read.mono (by omega)) (by have := hlen0.out; omega) (by omega) (by omega)).mono ?_
  rw [← hF0.out]
  rintro e w12' ⟨q0, rfl, hrow, hbn⟩
  have hb12 := hb11.trans (hbn.mono hb11.size)
  have hs12 := hbn.size
  replace hm0 := hidI (hm0.out.below hbn (by omega))
  replace hg0 := hidI (hg0.out.below hbn (by omega))
  replace hy0 := hidI (hy0.out.below hbn (by omega))
  clear hbn
  have hq0 := hidI hrow
  clear hrow
  go_wp2_with fail
  refine (eqIntS_law w12' q0 m0 F0 (hq0.out.read.mono (by omega)) (hm0.out.read.mono (by omega))).mono ?_
  rintro e w13' ⟨rfl, hbn, hz13⟩
  have hb13 := hb12.trans (hbn.mono hb12.size)
  have hs13 := hbn.size
  replace hm0 := hidI (hm0.out.below hbn (by omega))
  replace hg0 := hidI (hg0.out.below hbn (by omega))
  replace hy0 := hidI (hy0.out.below hbn (by omega))
  replace hq0 := hidI (hq0.out.below hbn (by omega))
  clear hbn
  go_wp2_with fail
  refine (heldIntS_any w13' w13'.heap.size g0 nf0 1 (hg0.out.read.mono (by omega)) (by omega) (by omega) (by omega)).mono ?_
  rintro e wz ⟨rfl, rfl⟩
  go_wp2_with fail
  go_ret
  exact ⟨rfl, hb13⟩
theorem walk (W : World) (a0 : Option Addr) (len0 cap0 : Nat) (z0 : List Int) (a1 : Int) (w0 : IsRow .i64 W a0 len0 cap0 z0) (w1 : (Lit.int .i64 a1).wf = true) :
    Calls Try.prog 6 #[.slice a0 len0 cap0, .int .i64 a1] W fun e w' => e = .returned (.bool true) ∧ Below W.heap.size W w' := by
  by_cases s0 : 1048576 < len0
  · exact walk0_big0 W a0 len0 cap0 a1  (row_len w0) s0
  obtain ⟨r0, i0, e0⟩ := readI_row w0 (by omega)
  exact walk0 W _ _ r0 i0 (by omega) a1 w1

/-! ### The row's step -/
set_option maxRecDepth 100000 in
theorem lifted (os : Os) (started : os.Started) (H : Type) (enc : TypeId × Value → H) :
    ReturnsInHanded {} Try.checked os 6 .any (Rows.fnExactRotateWordSpec.pre6 enc Try.prog Try.f6 Rows.fnExactRotateWordRow.domain false) (Rows.fnExactRotateWordSpec.post enc Try.prog Try.f6 false true false false) := by
  refine returnsInHanded_of_change (C := Try.checked) own started (by kernel_rfl) Try.func6
    (ChangeSpec.witness6 (enc := enc) (C := Try.checked) false ⟨#[], #[.slice none 0 0, .int .i64 0], []⟩ 8 (by kernel_rfl) (by kernel_rfl) (by kernel_rfl) (by kernel_rfl)) ?_
  intro W base args ds gs before hval0 hW hcnd _
  have hval : ∀ (j : Nat) t v, Try.f6.params[j]? = some t → args[j]? = some v → Value.okWide Try.prog W .any base t v := hval0
  have hW' := hW
  obtain ⟨p, q, hA0, hV, rfl, hfz, hnd⟩ := hW
  have hA : DataW.TrodAll enc Try.prog W 0 (fun _ => true) true Try.f6.params.toList args.toList ds p := hA0
  rw [Try.params6] at hA hval
  obtain ⟨v0, vs0, d0, ds0, p0, q0, hargs, rfl, rfl, h0, r0⟩ := trodAll_cons hA
  obtain ⟨v1, vs1, d1, ds1, p1, q1, rfl, rfl, rfl, h1, r1⟩ := trodAll_cons r0
  obtain ⟨rfl, rfl, rfl⟩ := trodAll_nil r1
  obtain rfl : args = #[v0, v1] := by cases args; simp_all
  obtain ⟨rfl, rfl⟩ := trodVars_none hV
  obtain ⟨a0, len0, cap0, rfl⟩ := okWide_slice Try.underlying24 (hval 0 24 v0 rfl rfl)
  have k0 := h0
  have lt0 : ∀ x ∈ p0, x.block < W.heap.size := by obtain ⟨m, hm⟩ := k0; exact DataW.trod_lt m _ _ _ hm
  obtain ⟨z0, w0⟩ : ∃ zs, IsRow .i64 W a0 len0 cap0 zs := by
    obtain ⟨fuel, hf⟩ := h0
    rcases open_ints Try.underlying24 Try.underlying3 (by kernel_rfl) hf with ⟨hcs, _⟩ | ⟨x, l, c, zs, hcs, _, hl, hm, hz, _, hcell, hwz⟩
    · simp [Value.cells] at hcs
      obtain ⟨rfl, rfl, rfl⟩ := hcs
      exact ⟨[], .inl ⟨rfl, rfl, rfl, rfl⟩⟩
    · simp [Value.cells] at hcs
      obtain ⟨rfl, rfl, rfl⟩ := hcs
      exact ⟨zs, .inr ⟨_, rfl, hl, hm, by simpa using hz, hcell, hwz⟩⟩
  obtain ⟨a1, rfl, rfl, rfl, w1⟩ := open_int Try.underlying3 (hval 1 3 v1 rfl rfl) h1
  clear hA0 hval0
  refine (walk W a0 len0 cap0 z0 a1 w0 w1).mono fun e W' ⟨he, hg⟩ => ?_
  subst he
  exact ⟨_, rfl, _, _, _, [], _, [], hW', trodAll_mk1 (shut_bool Try.underlying4 _), (trodAll_cons_mk (Below.trod laidOut (by kernel_rfl) (of_decide_eq_true (by kernel_rfl)) k0 hg lt0) (trodAll_cons_mk (shut_int Try.underlying3 w1) trodAll_mk0)), rfl, hg.frame _, fun h => by cases h⟩

theorem over : Rows.fnExactRotateWordRow.holds Try.pinned (OpenSpec.ofChange Rows.fnExactRotateWordSpec) :=
  OpenClaim.holds_of_wide 6 Try.f6 rfl rfl rfl rfl rfl rfl rfl ⟨rfl, rfl, rfl, rfl, rfl⟩ rfl rfl rfl rfl rfl (by kernel_rfl) Try.func6 (by kernel_rfl)
    (of_decide_eq_true (by kernel_rfl)) (by unfold Func.isWrapper; first | (rw [if_pos (by decide +kernel)]; kernel_rfl) | (rw [if_neg (by decide +kernel)]; exact ⟨rfl, rfl⟩))
    (fun os started H enc _ => lifted os started H enc)

theorem proved : Rows.FnExactRotateWordSaid := over
#print axioms proved
end Go.Proofs.Ytcjkgknmpgehbaa.fnExactRotateWord
