/- For every two slices of ints, laws.FnExactAreConjugate returns true and leaves its arguments as they are: the program's conjugating word, and whether there is one, are the model's, in memory of its own. Conditions: none beyond the row's. -/
import Derived.Test.YtcjkgknmpgehbaaLW2
import Derived.Test.YtcjkgknmpgehbaaWY5
import Derived.Test.YtcjkgknmpgehbaaWPN
import Derived.WalkKit
import Derived.ProofKit
import Derived.OpenShut
import Derived.ShutString
import Derived.Below
namespace Go.Proofs.Ytcjkgknmpgehbaa.fnExactAreConjugate
open Go.ChangeShapes Go.WideShapes Go.ChangeAt Go.RowKit
open Go.ChangeMaps (open_string shut_string)
set_option linter.unusedVariables false

theorem own : ownKnob Try.prog.godebug = none := by kernel_rfl

theorem laidOut : laidOutB Try.prog = true := by kernel_rfl
theorem walk0_big0 (w : World) (a0 : Option Addr) (len0 cap0 : Nat) (a1 : Option Addr) (len1 cap1 : Nat) (hm : len0 ≤ 9223372036854775807) (h : 1048576 < len0) :
    Calls Try.prog 9 #[.slice a0 len0 cap0, .slice a1 len1 cap1] w fun e w' => e = .returned (.bool true) ∧ Below w.heap.size w w' := by
  have hbi : (1048576 : Int) < (len0 : Int) := by omega
  go_enter Try.func9, Try.ntmps9
  go_wp2
  go_ret
  exact ⟨rfl, Below.refl _ _⟩
theorem walk0_big1 (w : World) (a0 : Option Addr) (len0 cap0 : Nat) (a1 : Option Addr) (len1 cap1 : Nat) (s0 : len0 ≤ 1048576) (hm : len1 ≤ 9223372036854775807) (h : 1048576 < len1) :
    Calls Try.prog 9 #[.slice a0 len0 cap0, .slice a1 len1 cap1] w fun e w' => e = .returned (.bool true) ∧ Below w.heap.size w w' := by
  have hbi : (1048576 : Int) < (len1 : Int) := by omega
  have hs0 : ¬ (1048576 : Int) < (len0 : Int) := by omega
  go_enter Try.func9, Try.ntmps9
  go_wp2
  go_ret
  exact ⟨rfl, Below.refl _ _⟩
set_option maxHeartbeats 3200000 in
theorem walk0 (w : World) (v0 : Value) (z0 : List Int) (h0 : ReadI w.heap.size w v0 z0) (i0 : InR z0) (l0 : z0.length ≤ 1048576) (v1 : Value) (z1 : List Int) (h1 : ReadI w.heap.size w v1 z1) (i1 : InR z1) (l1 : z1.length ≤ 1048576) :
    Calls Try.prog 9 #[v0, v1] w fun e w' => e = .returned (.bool true) ∧ Below w.heap.size w w' := by
  have hr0 := hidI h0
  obtain ⟨hl0, ad0, cap0, rfl, hq1, hq2⟩ := h0
  clear hq1 hq2
  have hlen0 := hidI l0
  obtain ⟨n0, hn0⟩ : ∃ n, n = z0.length := ⟨_, rfl⟩
  rw [← hn0] at hl0 hr0 l0 ⊢
  have hbi0 : ¬ (1048576 : Int) < (n0 : Int) := by omega
  replace i0 := hidI i0
  replace hn0 := hidI hn0
  have hr1 := hidI h1
  obtain ⟨hl1, ad1, cap1, rfl, hq1, hq2⟩ := h1
  clear hq1 hq2
  have hlen1 := hidI l1
  obtain ⟨n1, hn1⟩ : ∃ n, n = z1.length := ⟨_, rfl⟩
  rw [← hn1] at hl1 hr1 l1 ⊢
  have hbi1 : ¬ (1048576 : Int) < (n1 : Int) := by omega
  replace i1 := hidI i1
  replace hn1 := hidI hn1
  obtain ⟨F0, hF0⟩ : ∃ F, F = (conjW z0 z1).1 := ⟨_, rfl⟩
  have hfl0 : F0.length ≤ 1000000000 := by rw [hF0]; have := hlen0.out; have := hlen1.out; have := conjW_length z0 z1; omega
  replace hF0 := hidI hF0
  obtain ⟨F1, hF1⟩ : ∃ F, F = (conjW z0 z1).2 := ⟨_, rfl⟩
  have hne1 : (F1 != F1) = false := by simp
  have heq1 : (F1 == F1) = true := by simp
  replace hF1 := hidI hF1
  go_enter Try.func9, Try.ntmps9
  have hbw := Below.refl w.heap.size w
  go_wp2_with fail
  refine (toIntS_any w _ z0 ((hr0.out.below hbw).mono hbw.size) (by have := hlen0.out; omega)).mono ?_
  rintro e w1' ⟨u0, rfl, hrow, hbn⟩
  have hb1 := hbw.trans (hbn.mono hbw.size)
  have hs1 := hbn.size
  clear hbn
  have hu0 := hidI hrow
  clear hrow
  go_wp2_with fail
  refine (toIntS_any w1' _ z1 ((hr1.out.below hb1).mono hb1.size) (by have := hlen1.out; omega)).mono ?_
  rintro e w2' ⟨u1, rfl, hrow, hbn⟩
  have hb2 := hb1.trans (hbn.mono hb1.size)
  have hs2 := hbn.size
  replace hu0 := hidI (hu0.out.below hbn (by omega))
  clear hbn
  have hu1 := hidI hrow
  clear hrow
  go_wp2_with fail
  refine (specConj w2' u0 u1 z0 z1 (hu0.out.read.mono (by omega)) (hu1.out.read.mono (by omega)) (by have := hlen0.out; omega) (by have := hlen1.out; omega)).mono ?_
  rw [← hF0.out, ← hF1.out]
  rintro e w3' ⟨m0, rfl, hrow, hbn⟩
  have hb3 := hb2.trans (hbn.mono hb2.size)
  have hs3 := hbn.size
  replace hu0 := hidI (hu0.out.below hbn (by omega))
  replace hu1 := hidI (hu1.out.below hbn (by omega))
  clear hbn
  have hm0 := hidI hrow
  clear hrow
  clear hu0
  clear hu1
  go_wp2_with fail
  refine (toIntS_any w3' _ z0 ((hr0.out.below hb3).mono hb3.size) (by have := hlen0.out; omega)).mono ?_
  rintro e w4' ⟨x0, rfl, hrow, hbn⟩
  have hb4 := hb3.trans (hbn.mono hb3.size)
  have hs4 := hbn.size
  replace hm0 := hidI (hm0.out.below hbn (by omega))
  clear hbn
  have hx0 := hidI hrow
  clear hrow
  go_wp2_with fail
  refine (toIntS_any w4' _ z1 ((hr1.out.below hb4).mono hb4.size) (by have := hlen1.out; omega)).mono ?_
  rintro e w5' ⟨x1, rfl, hrow, hbn⟩
  have hb5 := hb4.trans (hbn.mono hb4.size)
  have hs5 := hbn.size
  replace hm0 := hidI (hm0.out.below hbn (by omega))
  replace hx0 := hidI (hx0.out.below hbn (by omega))
  clear hbn
  have hx1 := hidI hrow
  clear hrow
  go_wp2_with fail
  refine (iConj w5' x0 x1 z0 z1 (hx0.out.read.mono (by omega)) (hx1.out.read.mono (by omega)) (by have := hlen0.out; omega) (by have := hlen1.out; omega)).mono ?_
  rw [← hF0.out, ← hF1.out]
  rintro e w6' ⟨g0, rfl, hrow, hbn⟩
  have hb6 := hb5.trans (hbn.mono hb5.size)
  have hs6 := hbn.size
  replace hm0 := hidI (hm0.out.below hbn (by omega))
  replace hx0 := hidI (hx0.out.below hbn (by omega))
  replace hx1 := hidI (hx1.out.below hbn (by omega))
  clear hbn
  have hg0 := hidI hrow
  clear hrow
  go_wp2_with fail
  refine (eqIntS_law w6' g0 m0 F0 (hg0.out.read.mono (by omega)) (hm0.out.read.mono (by omega))).mono ?_
  rintro e w7' ⟨rfl, hbn, hz7⟩
  have hb7 := hb6.trans (hbn.mono hb6.size)
  have hs7 := hbn.size
  replace hm0 := hidI (hm0.out.below hbn (by omega))
  replace hx0 := hidI (hx0.out.below hbn (by omega))
  replace hx1 := hidI (hx1.out.below hbn (by omega))
  replace hg0 := hidI (hg0.out.below hbn (by omega))
  clear hbn
  go_wp2_with fail
  refine (toIntS_any w7' _ z0 ((hr0.out.below hb7).mono hb7.size) (by have := hlen0.out; omega)).mono ?_
  rintro e w8' ⟨t0, rfl, hrow, hbn⟩
  have hb8 := hb7.trans (hbn.mono hb7.size)
  have hs8 := hbn.size
  replace hm0 := hidI (hm0.out.below hbn (by omega))
  replace hx0 := hidI (hx0.out.below hbn (by omega))
  replace hx1 := hidI (hx1.out.below hbn (by omega))
  replace hg0 := hidI (hg0.out.below hbn (by omega))
  clear hbn
  have ht0 := hidI hrow
  clear hrow
  go_wp2_with fail
  refine (eqIntS_law w8' x0 t0 z0 (hx0.out.read.mono (by omega)) (ht0.out.read.mono (by omega))).mono ?_
  rintro e w9' ⟨rfl, hbn, hz9⟩
  have hb9 := hb8.trans (hbn.mono hb8.size)
  have hs9 := hbn.size
  replace hm0 := hidI (hm0.out.below hbn (by omega))
  replace hx0 := hidI (hx0.out.below hbn (by omega))
  replace hx1 := hidI (hx1.out.below hbn (by omega))
  replace hg0 := hidI (hg0.out.below hbn (by omega))
  replace ht0 := hidI (ht0.out.below hbn (by omega))
  clear hbn
  clear ht0
  go_wp2_with fail
  refine (toIntS_any w9' _ z1 ((hr1.out.below hb9).mono hb9.size) (by have := hlen1.out; omega)).mono ?_
  rintro e w10' ⟨t1, rfl, hrow, hbn⟩
  have hb10 := hb9.trans (hbn.mono hb9.size)
  have hs10 := hbn.size
  replace hm0 := hidI (hm0.out.below hbn (by omega))
  replace hx0 := hidI (hx0.out.below hbn (by omega))
  replace hx1 := hidI (hx1.out.below hbn (by omega))
  replace hg0 := hidI (hg0.out.below hbn (by omega))
  clear hbn
  have ht1 := hidI hrow
  clear hrow
  go_wp2_with fail
  refine (eqIntS_law w10' x1 t1 z1 (hx1.out.read.mono (by omega)) (ht1.out.read.mono (by omega))).mono ?_
  rintro e w11' ⟨rfl, hbn, hz11⟩
  have hb11 := hb10.trans (hbn.mono hb10.size)
  have hs11 := hbn.size
  replace hm0 := hidI (hm0.out.below hbn (by omega))
  replace hx0 := hidI (hx0.out.below hbn (by omega))
  replace hx1 := hidI (hx1.out.below hbn (by omega))
  replace hg0 := hidI (hg0.out.below hbn (by omega))
  replace ht1 := hidI (ht1.out.below hbn (by omega))
  clear hbn
  clear ht1
  have hlz : (z0.length : Int) + (z1.length : Int) ≤ 10000000 := by have := hlen0.out; have := hlen1.out; omega
  go_wp2_with fail
  refine (markIntS_any w11' (w3'.heap.size) (w4'.heap.size) x0 z0 1 hx0.out (by omega) (by omega) (by have := hlen0.out; omega)).mono ?_
  rintro e w12' ⟨rfl, hm, ho⟩
  have hb12 := hb11.trans (ho.below (by have := hb1.size; omega))
  have hs12 := ho.size
  replace hm0 := hidI (hm0.out.only ho (by omega))
  replace hx1 := hidI (hx1.out.only ho (by omega))
  replace hg0 := hidI (hg0.out.only ho (by omega))
  clear hm ho hx0
  go_wp2_with fail
  refine (markIntS_any w12' (w4'.heap.size) (w5'.heap.size) x1 z1 (1 + (z0.length : Int)) hx1.out (by omega) (by omega) (by have := hlen1.out; omega)).mono ?_
  rintro e w13' ⟨rfl, hm, ho⟩
  have hb13 := hb12.trans (ho.below (by have := hb1.size; omega))
  have hs13 := ho.size
  replace hm0 := hidI (hm0.out.only ho (by omega))
  replace hg0 := hidI (hg0.out.only ho (by omega))
  clear hm ho hx1
  have hkk : decide ((1 + (z0.length : Int) + (z1.length : Int)) < 0) = false := by simp; omega
  have hkk2 : ¬ (1 + (z0.length : Int) + (z1.length : Int)) < 0 := by omega
  go_wp2_with fail
  refine (eqIntS_law w13' g0 m0 F0 (hg0.out.read.mono (by omega)) (hm0.out.read.mono (by omega))).mono ?_
  rintro e w14' ⟨rfl, hbn, hz14⟩
  have hb14 := hb13.trans (hbn.mono hb13.size)
  have hs14 := hbn.size
  replace hm0 := hidI (hm0.out.below hbn (by omega))
  replace hg0 := hidI (hg0.out.below hbn (by omega))
  clear hbn
  go_wp2_with fail
  refine (markIntS_any w14' (w5'.heap.size) (w6'.heap.size) g0 F0 1 hg0.out (by omega) (by omega) (by omega)).mono ?_
  rintro e w15' ⟨rfl, hm, ho⟩
  have hb15 := hb14.trans (ho.below (by have := hb1.size; omega))
  have hs15 := ho.size
  replace hm0 := hidI (hm0.out.only ho (by omega))
  replace hg0 := hidI hm
  clear hm ho
  obtain ⟨nf0, hnf0⟩ : ∃ nf, nf = F0.length := ⟨_, rfl⟩
  have hnl0 : nf0 ≤ 1000000000 := by omega
  rw [← hnf0]
  rw [← hnf0] at hg0
  replace hnf0 := hidI hnf0
  have hk0f : decide ((1 + (nf0 : Int)) < 0) = false := by simp; omega
  have hk0g : ¬ (1 + (nf0 : Int)) < 0 := by omega
  have hkq : ((1 + (nf0 : Int)) != (1 + (nf0 : Int))) = false := by simp
  go_wp2_with fail
  refine (heldIntS_any w15' w15'.heap.size g0 nf0 1 (hg0.out.read.mono (by omega)) (by omega) (by omega) (by omega)).mono ?_
  rintro e wz ⟨rfl, rfl⟩
  go_wp2_with fail
  refine (toIntS_any w15' _ z0 ((hr0.out.below hb15).mono hb15.size) (by have := hlen0.out; omega)).mono ?_
  rintro e w16' ⟨y0, rfl, hrow, hbn⟩
  have hb16 := hb15.trans (hbn.mono hb15.size)
  have hs16 := hbn.size
  replace hm0 := hidI (hm0.out.below hbn (by omega))
  replace hg0 := hidI (hg0.out.below hbn (by omega))
  clear hbn
  have hy0 := hidI hrow
  clear hrow
  go_wp2_with fail
  refine (toIntS_any w16' _ z1 ((hr1.out.below hb16).mono hb16.size) (by have := hlen1.out; omega)).mono ?_
  rintro e w17' ⟨y1, rfl, hrow, hbn⟩
  have hb17 := hb16.trans (hbn.mono hb16.size)
  have hs17 := hbn.size
  replace hm0 := hidI (hm0.out.below hbn (by omega))
  replace hg0 := hidI (hg0.out.below hbn (by omega))
  replace hy0 := hidI (hy0.out.below hbn (by omega))
  clear hbn
  have hy1 := hidI hrow
  clear hrow
  go_wp2_with fail
  refine (iConj w17' y0 y1 z0 z1 (hy0.out.read.mono (by omega)) (hy1.out.read.mono (by omega)) (by have := hlen0.out; omega) (by have := hlen1.out; omega)).mono ?_
  rw [← hF0.out, ← hF1.out]
  rintro e w18' ⟨q0, rfl, hrow, hbn⟩
  have hb18 := hb17.trans (hbn.mono hb17.size)
  have hs18 := hbn.size
  replace hm0 := hidI (hm0.out.below hbn (by omega))
  replace hg0 := hidI (hg0.out.below hbn (by omega))
  replace hy0 := hidI (hy0.out.below hbn (by omega))
  replace hy1 := hidI (hy1.out.below hbn (by omega))
  clear hbn
  have hq0 := hidI hrow
  clear hrow
  go_wp2_with fail
  refine (eqIntS_law w18' q0 m0 F0 (hq0.out.read.mono (by omega)) (hm0.out.read.mono (by omega))).mono ?_
  rintro e w19' ⟨rfl, hbn, hz19⟩
  have hb19 := hb18.trans (hbn.mono hb18.size)
  have hs19 := hbn.size
  replace hm0 := hidI (hm0.out.below hbn (by omega))
  replace hg0 := hidI (hg0.out.below hbn (by omega))
  replace hy0 := hidI (hy0.out.below hbn (by omega))
  replace hy1 := hidI (hy1.out.below hbn (by omega))
  replace hq0 := hidI (hq0.out.below hbn (by omega))
  clear hbn
  go_wp2_with fail
  refine (heldIntS_any w19' w19'.heap.size g0 nf0 1 (hg0.out.read.mono (by omega)) (by omega) (by omega) (by omega)).mono ?_
  rintro e wz ⟨rfl, rfl⟩
  go_wp2_with fail
  go_ret
  exact ⟨rfl, hb19⟩
theorem walk (W : World) (a0 : Option Addr) (len0 cap0 : Nat) (z0 : List Int) (a1 : Option Addr) (len1 cap1 : Nat) (z1 : List Int) (w0 : IsRow .i64 W a0 len0 cap0 z0) (w1 : IsRow .i64 W a1 len1 cap1 z1) :
    Calls Try.prog 9 #[.slice a0 len0 cap0, .slice a1 len1 cap1] W fun e w' => e = .returned (.bool true) ∧ Below W.heap.size W w' := by
  by_cases s0 : 1048576 < len0
  · exact walk0_big0 W a0 len0 cap0 a1 len1 cap1  (row_len w0) s0
  by_cases s1 : 1048576 < len1
  · exact walk0_big1 W a0 len0 cap0 a1 len1 cap1 (by omega) (row_len w1) s1
  obtain ⟨r0, i0, e0⟩ := readI_row w0 (by omega)
  obtain ⟨r1, i1, e1⟩ := readI_row w1 (by omega)
  exact walk0 W _ _ r0 i0 (by omega) _ _ r1 i1 (by omega)

/-! ### The row's step -/
set_option maxRecDepth 100000 in
theorem lifted (os : Os) (started : os.Started) (H : Type) (enc : TypeId × Value → H) :
    ReturnsInHanded {} Try.checked os 9 .any (Rows.fnExactAreConjugateSpec.pre6 enc Try.prog Try.f9 Rows.fnExactAreConjugateRow.domain false) (Rows.fnExactAreConjugateSpec.post enc Try.prog Try.f9 false true false false) := by
  refine returnsInHanded_of_change (C := Try.checked) own started (by kernel_rfl) Try.func9
    (ChangeSpec.witness6 (enc := enc) (C := Try.checked) false ⟨#[], #[.slice none 0 0, .slice none 0 0], []⟩ 8 (by kernel_rfl) (by kernel_rfl) (by kernel_rfl) (by kernel_rfl)) ?_
  intro W base args ds gs before hval0 hW hcnd _
  have hval : ∀ (j : Nat) t v, Try.f9.params[j]? = some t → args[j]? = some v → Value.okWide Try.prog W .any base t v := hval0
  have hW' := hW
  obtain ⟨p, q, hA0, hV, rfl, hfz, hnd⟩ := hW
  have hA : DataW.TrodAll enc Try.prog W 0 (fun _ => true) true Try.f9.params.toList args.toList ds p := hA0
  rw [Try.params9] at hA hval
  obtain ⟨v0, vs0, d0, ds0, p0, q0, hargs, rfl, rfl, h0, r0⟩ := trodAll_cons hA
  obtain ⟨v1, vs1, d1, ds1, p1, q1, rfl, rfl, rfl, h1, r1⟩ := trodAll_cons r0
  obtain ⟨rfl, rfl, rfl⟩ := trodAll_nil r1
  obtain rfl : args = #[v0, v1] := by cases args; simp_all
  obtain ⟨rfl, rfl⟩ := trodVars_none hV
  obtain ⟨a0, len0, cap0, rfl⟩ := okWide_slice Try.underlying24 (hval 0 24 v0 rfl rfl)
  have k0 := h0
  have lt0 : ∀ x ∈ p0, x.block < W.heap.size := by obtain ⟨m, hm⟩ := k0; exact DataW.trod_lt m _ _ _ hm
  obtain ⟨z0, w0⟩ : ∃ zs, IsRow .i64 W a0 len0 cap0 zs := by
    obtain ⟨fuel, hf⟩ := h0
    rcases open_ints Try.underlying24 Try.underlying3 (by kernel_rfl) hf with ⟨hcs, _⟩ | ⟨x, l, c, zs, hcs, _, hl, hm, hz, _, hcell, hwz⟩
    · simp [Value.cells] at hcs
      obtain ⟨rfl, rfl, rfl⟩ := hcs
      exact ⟨[], .inl ⟨rfl, rfl, rfl, rfl⟩⟩
    · simp [Value.cells] at hcs
      obtain ⟨rfl, rfl, rfl⟩ := hcs
      exact ⟨zs, .inr ⟨_, rfl, hl, hm, by simpa using hz, hcell, hwz⟩⟩
  obtain ⟨a1, len1, cap1, rfl⟩ := okWide_slice Try.underlying24 (hval 1 24 v1 rfl rfl)
  have k1 := h1
  have lt1 : ∀ x ∈ p1, x.block < W.heap.size := by obtain ⟨m, hm⟩ := k1; exact DataW.trod_lt m _ _ _ hm
  obtain ⟨z1, w1⟩ : ∃ zs, IsRow .i64 W a1 len1 cap1 zs := by
    obtain ⟨fuel, hf⟩ := h1
    rcases open_ints Try.underlying24 Try.underlying3 (by kernel_rfl) hf with ⟨hcs, _⟩ | ⟨x, l, c, zs, hcs, _, hl, hm, hz, _, hcell, hwz⟩
    · simp [Value.cells] at hcs
      obtain ⟨rfl, rfl, rfl⟩ := hcs
      exact ⟨[], .inl ⟨rfl, rfl, rfl, rfl⟩⟩
    · simp [Value.cells] at hcs
      obtain ⟨rfl, rfl, rfl⟩ := hcs
      exact ⟨zs, .inr ⟨_, rfl, hl, hm, by simpa using hz, hcell, hwz⟩⟩
  clear hA0 hval0
  refine (walk W a0 len0 cap0 z0 a1 len1 cap1 z1 w0 w1).mono fun e W' ⟨he, hg⟩ => ?_
  subst he
  exact ⟨_, rfl, _, _, _, [], _, [], hW', trodAll_mk1 (shut_bool Try.underlying4 _), (trodAll_cons_mk (Below.trod laidOut (by kernel_rfl) (of_decide_eq_true (by kernel_rfl)) k0 hg lt0) (trodAll_cons_mk (Below.trod laidOut (by kernel_rfl) (of_decide_eq_true (by kernel_rfl)) k1 hg lt1) trodAll_mk0)), rfl, hg.frame _, fun h => by cases h⟩

theorem over : Rows.fnExactAreConjugateRow.holds Try.pinned (OpenSpec.ofChange Rows.fnExactAreConjugateSpec) :=
  OpenClaim.holds_of_wide 9 Try.f9 rfl rfl rfl rfl rfl rfl rfl ⟨rfl, rfl, rfl, rfl, rfl⟩ rfl rfl rfl rfl rfl (by kernel_rfl) Try.func9 (by kernel_rfl)
    (of_decide_eq_true (by kernel_rfl)) (by unfold Func.isWrapper; first | (rw [if_pos (by decide +kernel)]; kernel_rfl) | (rw [if_neg (by decide +kernel)]; exact ⟨rfl, rfl⟩))
    (fun os started H enc _ => lifted os started H enc)

theorem proved : Rows.FnExactAreConjugateSaid := over
#print axioms proved
end Go.Proofs.Ytcjkgknmpgehbaa.fnExactAreConjugate
