/- For every slice of ints, laws.FnExactCyclicLength returns true and leaves its arguments as they are: the program's answer is the model's. Conditions: none beyond the row's. -/
import Derived.Test.YtcjkgknmpgehbaaLW2
import Derived.Test.YtcjkgknmpgehbaaWY5
import Derived.Test.YtcjkgknmpgehbaaWPN
import Derived.WalkKit
import Derived.ProofKit
import Derived.OpenShut
import Derived.ShutString
import Derived.Below
namespace Go.Proofs.Ytcjkgknmpgehbaa.fnExactCyclicLength
open Go.ChangeShapes Go.WideShapes Go.ChangeAt Go.RowKit
open Go.ChangeMaps (open_string shut_string)
set_option linter.unusedVariables false

theorem own : ownKnob Try.prog.godebug = none := by kernel_rfl

theorem laidOut : laidOutB Try.prog = true := by kernel_rfl
theorem walk0_big0 (w : World) (a0 : Option Addr) (len0 cap0 : Nat) (hm : len0 ≤ 9223372036854775807) (h : 1048576 < len0) :
    Calls Try.prog 13 #[.slice a0 len0 cap0] w fun e w' => e = .returned (.bool true) ∧ Below w.heap.size w w' := by
  have hbi : (1048576 : Int) < (len0 : Int) := by omega
  go_enter Try.func13, Try.ntmps13
  go_wp2
  go_ret
  exact ⟨rfl, Below.refl _ _⟩
set_option maxHeartbeats 3200000 in
theorem walk0 (w : World) (v0 : Value) (z0 : List Int) (h0 : ReadI w.heap.size w v0 z0) (i0 : InR z0) (l0 : z0.length ≤ 1048576) :
    Calls Try.prog 13 #[v0] w fun e w' => e = .returned (.bool true) ∧ Below w.heap.size w w' := by
  have hr0 := hidI h0
  obtain ⟨hl0, ad0, cap0, rfl, hq1, hq2⟩ := h0
  clear hq1 hq2
  have hlen0 := hidI l0
  obtain ⟨n0, hn0⟩ : ∃ n, n = z0.length := ⟨_, rfl⟩
  rw [← hn0] at hl0 hr0 l0 ⊢
  have hbi0 : ¬ (1048576 : Int) < (n0 : Int) := by omega
  replace i0 := hidI i0
  replace hn0 := hidI hn0
  obtain ⟨F0, hF0⟩ : ∃ F, F = ((coreL z0).1.length : Int) := ⟨_, rfl⟩
  have hne0 : (F0 != F0) = false := by simp
  have heq0 : (F0 == F0) = true := by simp
  replace hF0 := hidI hF0
  go_enter Try.func13, Try.ntmps13
  have hbw := Below.refl w.heap.size w
  go_wp2_with fail
  refine (toIntS_any w _ z0 ((hr0.out.below hbw).mono hbw.size) (by have := hlen0.out; omega)).mono ?_
  rintro e w1' ⟨u0, rfl, hrow, hbn⟩
  have hb1 := hbw.trans (hbn.mono hbw.size)
  have hs1 := hbn.size
  clear hbn
  have hu0 := hidI hrow
  clear hrow
  go_wp2_with fail
  refine (specCLen w1' u0 z0 (hu0.out.read.mono (by omega)) (by have := hlen0.out; omega)).mono ?_
  rw [← hF0.out]
  rintro e w2' ⟨rfl, hbn⟩
  have hb2 := hb1.trans (hbn.mono hb1.size)
  have hs2 := hbn.size
  replace hu0 := hidI (hu0.out.below hbn (by omega))
  clear hbn
  clear hu0
  go_wp2_with fail
  refine (toIntS_any w2' _ z0 ((hr0.out.below hb2).mono hb2.size) (by have := hlen0.out; omega)).mono ?_
  rintro e w3' ⟨x0, rfl, hrow, hbn⟩
  have hb3 := hb2.trans (hbn.mono hb2.size)
  have hs3 := hbn.size
  clear hbn
  have hx0 := hidI hrow
  clear hrow
  go_wp2_with fail
  refine (iCLen w3' x0 z0 (hx0.out.read.mono (by omega)) (by have := hlen0.out; omega)).mono ?_
  rw [← hF0.out]
  rintro e w4' ⟨rfl, hbn⟩
  have hb4 := hb3.trans (hbn.mono hb3.size)
  have hs4 := hbn.size
  replace hx0 := hidI (hx0.out.below hbn (by omega))
  clear hbn
  go_wp2_with fail
  refine (toIntS_any w4' _ z0 ((hr0.out.below hb4).mono hb4.size) (by have := hlen0.out; omega)).mono ?_
  rintro e w5' ⟨t0, rfl, hrow, hbn⟩
  have hb5 := hb4.trans (hbn.mono hb4.size)
  have hs5 := hbn.size
  replace hx0 := hidI (hx0.out.below hbn (by omega))
  clear hbn
  have ht0 := hidI hrow
  clear hrow
  go_wp2_with fail
  refine (eqIntS_law w5' x0 t0 z0 (hx0.out.read.mono (by omega)) (ht0.out.read.mono (by omega))).mono ?_
  rintro e w6' ⟨rfl, hbn, hz6⟩
  have hb6 := hb5.trans (hbn.mono hb5.size)
  have hs6 := hbn.size
  replace hx0 := hidI (hx0.out.below hbn (by omega))
  replace ht0 := hidI (ht0.out.below hbn (by omega))
  clear hbn
  clear ht0
  go_wp2_with fail
  go_ret
  exact ⟨rfl, hb6⟩
theorem walk (W : World) (a0 : Option Addr) (len0 cap0 : Nat) (z0 : List Int) (w0 : IsRow .i64 W a0 len0 cap0 z0) :
    Calls Try.prog 13 #[.slice a0 len0 cap0] W fun e w' => e = .returned (.bool true) ∧ Below W.heap.size W w' := by
  by_cases s0 : 1048576 < len0
  · exact walk0_big0 W a0 len0 cap0  (row_len w0) s0
  obtain ⟨r0, i0, e0⟩ := readI_row w0 (by omega)
  exact walk0 W _ _ r0 i0 (by omega)

/-! ### The row's step -/
set_option maxRecDepth 100000 in
theorem lifted (os : Os) (started : os.Started) (H : Type) (enc : TypeId × Value → H) :
    ReturnsInHanded {} Try.checked os 13 .any (Rows.fnExactCyclicLengthSpec.pre6 enc Try.prog Try.f13 Rows.fnExactCyclicLengthRow.domain false) (Rows.fnExactCyclicLengthSpec.post enc Try.prog Try.f13 false true false false) := by
  refine returnsInHanded_of_change (C := Try.checked) own started (by kernel_rfl) Try.func13
    (ChangeSpec.witness6 (enc := enc) (C := Try.checked) false ⟨#[], #[.slice none 0 0], []⟩ 8 (by kernel_rfl) (by kernel_rfl) (by kernel_rfl) (by kernel_rfl)) ?_
  intro W base args ds gs before hval0 hW hcnd _
  have hval : ∀ (j : Nat) t v, Try.f13.params[j]? = some t → args[j]? = some v → Value.okWide Try.prog W .any base t v := hval0
  have hW' := hW
  obtain ⟨p, q, hA0, hV, rfl, hfz, hnd⟩ := hW
  have hA : DataW.TrodAll enc Try.prog W 0 (fun _ => true) true Try.f13.params.toList args.toList ds p := hA0
  rw [Try.params13] at hA hval
  obtain ⟨v0, vs0, d0, ds0, p0, q0, hargs, rfl, rfl, h0, r0⟩ := trodAll_cons hA
  obtain ⟨rfl, rfl, rfl⟩ := trodAll_nil r0
  obtain rfl : args = #[v0] := by cases args; simp_all
  obtain ⟨rfl, rfl⟩ := trodVars_none hV
  obtain ⟨a0, len0, cap0, rfl⟩ := okWide_slice Try.underlying24 (hval 0 24 v0 rfl rfl)
  have k0 := h0
  have lt0 : ∀ x ∈ p0, x.block < W.heap.size := by obtain ⟨m, hm⟩ := k0; exact DataW.trod_lt m _ _ _ hm
  obtain ⟨z0, w0⟩ : ∃ zs, IsRow .i64 W a0 len0 cap0 zs := by
    obtain ⟨fuel, hf⟩ := h0
    rcases open_ints Try.underlying24 Try.underlying3 (by kernel_rfl) hf with ⟨hcs, _⟩ | ⟨x, l, c, zs, hcs, _, hl, hm, hz, _, hcell, hwz⟩
    · simp [Value.cells] at hcs
      obtain ⟨rfl, rfl, rfl⟩ := hcs
      exact ⟨[], .inl ⟨rfl, rfl, rfl, rfl⟩⟩
    · simp [Value.cells] at hcs
      obtain ⟨rfl, rfl, rfl⟩ := hcs
      exact ⟨zs, .inr ⟨_, rfl, hl, hm, by simpa using hz, hcell, hwz⟩⟩
  clear hA0 hval0
  refine (walk W a0 len0 cap0 z0 w0).mono fun e W' ⟨he, hg⟩ => ?_
  subst he
  exact ⟨_, rfl, _, _, _, [], _, [], hW', trodAll_mk1 (shut_bool Try.underlying4 _), (trodAll_cons_mk (Below.trod laidOut (by kernel_rfl) (of_decide_eq_true (by kernel_rfl)) k0 hg lt0) trodAll_mk0), rfl, hg.frame _, fun h => by cases h⟩

theorem over : Rows.fnExactCyclicLengthRow.holds Try.pinned (OpenSpec.ofChange Rows.fnExactCyclicLengthSpec) :=
  OpenClaim.holds_of_wide 13 Try.f13 rfl rfl rfl rfl rfl rfl rfl ⟨rfl, rfl, rfl, rfl, rfl⟩ rfl rfl rfl rfl rfl (by kernel_rfl) Try.func13 (by kernel_rfl)
    (of_decide_eq_true (by kernel_rfl)) (by unfold Func.isWrapper; first | (rw [if_pos (by decide +kernel)]; kernel_rfl) | (rw [if_neg (by decide +kernel)]; exact ⟨rfl, rfl⟩))
    (fun os started H enc _ => lifted os started H enc)

theorem proved : Rows.FnExactCyclicLengthSaid := over
#print axioms proved
end Go.Proofs.Ytcjkgknmpgehbaa.fnExactCyclicLength
