/- For all arguments, IsWord answers as its model, leaves its arguments as they are and hands back memory of its own (laws.FnExactIsWord returns true and leaves its arguments as they are). Conditions: none beyond the row's. -/
import Derived.Test.YthjlemcnddkjgaaLW
import Derived.Test.YthjlemcnddkjgaaWS6
import Derived.Test.YthjlemcnddkjgaaWJ
import Derived.WalkKit
import Derived.ProofKit
import Derived.OpenShut
import Derived.ShutString
import Derived.Below
namespace Go.Proofs.Ythjlemcnddkjgaa.fnExactIsWord
open Go.ChangeShapes Go.WideShapes Go.ChangeAt Go.RowKit
open Go.ChangeMaps (open_string shut_string)
set_option linter.unusedVariables false

theorem own : ownKnob Try.prog.godebug = none := by kernel_rfl

theorem laidOut : laidOutB Try.prog = true := by kernel_rfl
theorem walk0_big1 (w : World) (a0 : Int) (a1 : Option Addr) (len1 cap1 : Nat) (hm : len1 ≤ 9223372036854775807) (h : 1048576 < len1) :
    Calls Try.prog 5 #[.int .i64 a0, .slice a1 len1 cap1] w fun e w' => e = .returned (.bool true) ∧ Below w.heap.size w w' := by
  have hbi : (1048576 : Int) < (len1 : Int) := by omega
  go_enter Try.func5, Try.ntmps5
  go_wp2
  go_ret
  exact ⟨rfl, Below.refl _ _⟩
set_option maxHeartbeats 1600000 in
theorem walk0 (w : World) (a0 : Int) (w0 : (Lit.int .i64 a0).wf = true) (v1 : Value) (z1 : List Int) (h1 : ReadI w.heap.size w v1 z1) (i1 : InR z1) (l1 : z1.length ≤ 1048576) :
    Calls Try.prog 5 #[.int .i64 a0, v1] w fun e w' => e = .returned (.bool true) ∧ Below w.heap.size w w' := by
  have hr1 := hidI h1
  obtain ⟨hl1, ad1, cap1, rfl, hq1, hq2⟩ := h1
  clear hq1 hq2
  have hlen1 := hidI l1
  obtain ⟨n1, hn1⟩ : ∃ n, n = z1.length := ⟨_, rfl⟩
  rw [← hn1] at hl1 hr1 l1 ⊢
  have hbi1 : ¬ (1048576 : Int) < (n1 : Int) := by omega
  replace i1 := hidI i1
  have hw0 := bounds_i64 w0
  obtain ⟨F, hF⟩ : ∃ F, F = isW a0 z1 := ⟨_, rfl⟩
  replace hF := hidI hF
  replace hn1 := hidI hn1
  go_enter Try.func5, Try.ntmps5
  have hbw := Below.refl w.heap.size w
  go_wp2_with fail
  refine (toIntS_any w _ z1 ((hr1.out.below hbw).mono hbw.size) (by have := hlen1.out; omega)).mono ?_
  rintro e w1' ⟨u1, rfl, hrow, hbn⟩
  have hb1 := hbw.trans (hbn.mono hbw.size)
  have hs1 := hbn.size
  have hu1 := hidI hrow
  clear hrow hbn
  go_wp2_with fail
  refine (specIsW w1' w1'.heap.size u1 z1 a0 (hu1.out.read.mono (by omega))).mono ?_
  rw [← hF.out]
  rintro e w2' ⟨rfl, nq, hwq⟩
  have hbn : Below w1'.heap.size w1' w2' := by rw [hwq]; exact below_dN (Below.refl _ _) nq
  have hs2 : w2'.heap.size = w1'.heap.size := by rw [hwq]; rfl
  clear hwq
  have hb2 := hb1.trans (hbn.mono hb1.size)
  replace hu1 := hidI (hu1.out.below hbn (by omega))
  clear hbn
  clear hu1
  go_wp2_with fail
  refine (toIntS_any w2' _ z1 ((hr1.out.below hb2).mono hb2.size) (by have := hlen1.out; omega)).mono ?_
  rintro e w3' ⟨x1, rfl, hrow, hbn⟩
  have hb3 := hb2.trans (hbn.mono hb2.size)
  have hs3 := hbn.size
  have hx1 := hidI hrow
  clear hrow hbn
  go_wp2_with fail
  refine (isWord_any w3' w3'.heap.size x1 z1 a0 (hx1.out.read.mono (by omega))).mono ?_
  rw [← hF.out]
  rintro e w4' ⟨rfl, nq, hwq⟩
  have hbn : Below w3'.heap.size w3' w4' := by rw [hwq]; exact below_dN (Below.refl _ _) nq
  have hs4 : w4'.heap.size = w3'.heap.size := by rw [hwq]; rfl
  clear hwq
  have hb4 := hb3.trans (hbn.mono hb3.size)
  replace hx1 := hidI (hx1.out.below hbn (by omega))
  clear hbn
  go_wp2_with fail
  refine (toIntS_any w4' _ z1 ((hr1.out.below hb4).mono hb4.size) (by have := hlen1.out; omega)).mono ?_
  rintro e w5' ⟨t1, rfl, hrow, hbn⟩
  have hb5 := hb4.trans (hbn.mono hb4.size)
  have hs5 := hbn.size
  replace hx1 := hidI (hx1.out.below hbn (by omega))
  have ht1 := hidI hrow
  clear hrow hbn
  go_wp2_with fail
  refine (eqIntS_law w5' x1 t1 z1 (hx1.out.read.mono (by omega)) (ht1.out.read.mono (by omega))).mono ?_
  rintro e w6' ⟨rfl, hbn, hs6⟩
  have hb6 := hb5.trans (hbn.mono hb5.size)
  replace hx1 := hidI (hx1.out.below hbn (by omega))
  replace ht1 := hidI (ht1.out.below hbn (by omega))
  clear hbn
  clear ht1
  go_wp2_with fail
  go_ret
  exact ⟨rfl, hb6⟩
theorem walk (W : World) (a0 : Int) (a1 : Option Addr) (len1 cap1 : Nat) (z1 : List Int) (w0 : (Lit.int .i64 a0).wf = true) (w1 : IsRow .i64 W a1 len1 cap1 z1) :
    Calls Try.prog 5 #[.int .i64 a0, .slice a1 len1 cap1] W fun e w' => e = .returned (.bool true) ∧ Below W.heap.size W w' := by
  by_cases s1 : 1048576 < len1
  · exact walk0_big1 W a0 a1 len1 cap1  (row_len w1) s1
  obtain ⟨r1, i1, e1⟩ := readI_row w1 (by omega)
  exact walk0 W a0 w0 _ _ r1 i1 (by omega)

/-! ### The row's step -/
set_option maxRecDepth 100000 in
theorem lifted (os : Os) (started : os.Started) (H : Type) (enc : TypeId × Value → H) :
    ReturnsInHanded {} Try.checked os 5 .any (Rows.fnExactIsWordSpec.pre6 enc Try.prog Try.f5 Rows.fnExactIsWordRow.domain false) (Rows.fnExactIsWordSpec.post enc Try.prog Try.f5 false true false false) := by
  refine returnsInHanded_of_change (C := Try.checked) own started (by kernel_rfl) Try.func5
    (ChangeSpec.witness6 (enc := enc) (C := Try.checked) false ⟨#[], #[.int .i64 0, .slice none 0 0], []⟩ 8 (by kernel_rfl) (by kernel_rfl) (by kernel_rfl) (by kernel_rfl)) ?_
  intro W base args ds gs before hval0 hW hcnd _
  have hval : ∀ (j : Nat) t v, Try.f5.params[j]? = some t → args[j]? = some v → Value.okWide Try.prog W .any base t v := hval0
  have hW' := hW
  obtain ⟨p, q, hA0, hV, rfl, hfz, hnd⟩ := hW
  have hA : DataW.TrodAll enc Try.prog W 0 (fun _ => true) true Try.f5.params.toList args.toList ds p := hA0
  rw [Try.params5] at hA hval
  obtain ⟨v0, vs0, d0, ds0, p0, q0, hargs, rfl, rfl, h0, r0⟩ := trodAll_cons hA
  obtain ⟨v1, vs1, d1, ds1, p1, q1, rfl, rfl, rfl, h1, r1⟩ := trodAll_cons r0
  obtain ⟨rfl, rfl, rfl⟩ := trodAll_nil r1
  obtain rfl : args = #[v0, v1] := by cases args; simp_all
  obtain ⟨rfl, rfl⟩ := trodVars_none hV
  obtain ⟨a0, rfl, rfl, rfl, w0⟩ := open_int Try.underlying3 (hval 0 3 v0 rfl rfl) h0
  obtain ⟨a1, len1, cap1, rfl⟩ := okWide_slice Try.underlying24 (hval 1 24 v1 rfl rfl)
  have k1 := h1
  have lt1 : ∀ x ∈ p1, x.block < W.heap.size := by obtain ⟨m, hm⟩ := k1; exact DataW.trod_lt m _ _ _ hm
  obtain ⟨z1, w1⟩ : ∃ zs, IsRow .i64 W a1 len1 cap1 zs := by
    obtain ⟨fuel, hf⟩ := h1
    rcases open_ints Try.underlying24 Try.underlying3 (by kernel_rfl) hf with ⟨hcs, _⟩ | ⟨x, l, c, zs, hcs, _, hl, hm, hz, _, hcell, hwz⟩
    · simp [Value.cells] at hcs
      obtain ⟨rfl, rfl, rfl⟩ := hcs
      exact ⟨[], .inl ⟨rfl, rfl, rfl, rfl⟩⟩
    · simp [Value.cells] at hcs
      obtain ⟨rfl, rfl, rfl⟩ := hcs
      exact ⟨zs, .inr ⟨_, rfl, hl, hm, by simpa using hz, hcell, hwz⟩⟩
  clear hA0 hval0
  refine (walk W a0 a1 len1 cap1 z1 w0 w1).mono fun e W' ⟨he, hg⟩ => ?_
  subst he
  exact ⟨_, rfl, _, _, _, [], _, [], hW', trodAll_mk1 (shut_bool Try.underlying4 _), (trodAll_cons_mk (shut_int Try.underlying3 w0) (trodAll_cons_mk (Below.trod laidOut (by kernel_rfl) (of_decide_eq_true (by kernel_rfl)) k1 hg lt1) trodAll_mk0)), rfl, hg.frame _, fun h => by cases h⟩

theorem over : Rows.fnExactIsWordRow.holds Try.pinned (OpenSpec.ofChange Rows.fnExactIsWordSpec) :=
  OpenClaim.holds_of_wide 5 Try.f5 rfl rfl rfl rfl rfl rfl rfl ⟨rfl, rfl, rfl, rfl, rfl⟩ rfl rfl rfl rfl rfl (by kernel_rfl) Try.func5 (by kernel_rfl)
    (of_decide_eq_true (by kernel_rfl)) (by unfold Func.isWrapper; first | (rw [if_pos (by decide +kernel)]; kernel_rfl) | (rw [if_neg (by decide +kernel)]; exact ⟨rfl, rfl⟩))
    (fun os started H enc _ => lifted os started H enc)

theorem proved : Rows.FnExactIsWordSaid := over
#print axioms proved
end Go.Proofs.Ythjlemcnddkjgaa.fnExactIsWord
