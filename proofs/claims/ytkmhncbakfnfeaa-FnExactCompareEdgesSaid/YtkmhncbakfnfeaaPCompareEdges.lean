/- For every two edges, laws.FnExactCompareEdges returns true and leaves its arguments as they are: the program's answer is the model's. Conditions: none beyond the row's. -/
import Derived.Test.YtkmhncbakfnfeaaLW3
import Derived.Test.YtkmhncbakfnfeaaGS12
import Derived.Test.YtkmhncbakfnfeaaWGN
import Derived.WalkKit
import Derived.ProofKit
import Derived.OpenShut
import Derived.ShutString
import Derived.Below
namespace Go.Proofs.Ytkmhncbakfnfeaa.fnExactCompareEdges
open Go.ChangeShapes Go.WideShapes Go.ChangeAt Go.RowKit
open Go.ChangeMaps (open_string shut_string)
set_option linter.unusedVariables false

theorem own : ownKnob Try.prog.godebug = none := by kernel_rfl

theorem laidOut : laidOutB Try.prog = true := by kernel_rfl
set_option maxHeartbeats 3200000 in
theorem walk0 (w : World) (f0 l0 t0 : Int) (bf0 : -9223372036854775808 ≤ f0 ∧ f0 ≤ 9223372036854775807) (bl0 : -9223372036854775808 ≤ l0 ∧ l0 ≤ 9223372036854775807) (bt0 : -9223372036854775808 ≤ t0 ∧ t0 ≤ 9223372036854775807) (f1 l1 t1 : Int) (bf1 : -9223372036854775808 ≤ f1 ∧ f1 ≤ 9223372036854775807) (bl1 : -9223372036854775808 ≤ l1 ∧ l1 ≤ 9223372036854775807) (bt1 : -9223372036854775808 ≤ t1 ∧ t1 ≤ 9223372036854775807) :
    Calls Try.prog 3 #[.agg #[.int .i64 f0, .int .i64 l0, .int .i64 t0], .agg #[.int .i64 f1, .int .i64 l1, .int .i64 t1]] w fun e w' => e = .returned (.bool true) ∧ Below w.heap.size w w' := by
  obtain ⟨F0, hF0⟩ : ∃ F, F = cmpE (f0, l0, t0) (f1, l1, t1) := ⟨_, rfl⟩
  have hne0 : (F0 != F0) = false := by simp
  have heq0 : (F0 == F0) = true := by simp
  replace hF0 := hidI hF0
  have hbw := Below.refl w.heap.size w
  obtain ⟨w1', hw1⟩ : ∃ z, z = w.alloc (.cells #[.int .i64 f0, .int .i64 l0, .int .i64 t0] 23) := ⟨_, rfl⟩
  have hbn : Below w.heap.size w w1' := by rw [hw1]; exact (Below.refl _ _).alloc (Nat.le_refl _) _
  have hlt1 : w.heap.size < w1'.heap.size := by rw [hw1]; simp
  have hnb : w1'.heap[w.heap.size]? = some (.cells #[.int .i64 f0, .int .i64 l0, .int .i64 t0] 23 (0, 0)) := by rw [hw1]; exact heap_alloc_new _ _
  replace hw1 := hidI hw1
  have hb1 := hbw.trans (hbn.mono hbw.size)
  have hs1 := hbn.size
  clear hbn
  have ca00 : w1'.cell? ⟨w.heap.size, 0, none⟩ = some (.int .i64 f0) := by simpa using cell_of_heap hnb 0
  have ca01 : w1'.cell? ⟨w.heap.size, 1, none⟩ = some (.int .i64 l0) := by simpa using cell_of_heap hnb 1
  have ca02 : w1'.cell? ⟨w.heap.size, 2, none⟩ = some (.int .i64 t0) := by simpa using cell_of_heap hnb 2
  clear hnb
  obtain ⟨w2', hw2⟩ : ∃ z, z = w1'.alloc (.cells #[.int .i64 f1, .int .i64 l1, .int .i64 t1] 23) := ⟨_, rfl⟩
  have hbn : Below w1'.heap.size w1' w2' := by rw [hw2]; exact (Below.refl _ _).alloc (Nat.le_refl _) _
  have hlt2 : w1'.heap.size < w2'.heap.size := by rw [hw2]; simp
  have hnb : w2'.heap[w1'.heap.size]? = some (.cells #[.int .i64 f1, .int .i64 l1, .int .i64 t1] 23 (0, 0)) := by rw [hw2]; exact heap_alloc_new _ _
  replace hw2 := hidI hw2
  have hb2 := hb1.trans (hbn.mono hb1.size)
  have hs2 := hbn.size
  replace ca00 := (hbn.cell (p := (⟨w.heap.size, 0, none⟩ : Addr)) (show w.heap.size < w1'.heap.size by omega)).trans ca00
  replace ca01 := (hbn.cell (p := (⟨w.heap.size, 1, none⟩ : Addr)) (show w.heap.size < w1'.heap.size by omega)).trans ca01
  replace ca02 := (hbn.cell (p := (⟨w.heap.size, 2, none⟩ : Addr)) (show w.heap.size < w1'.heap.size by omega)).trans ca02
  clear hbn
  rw [show w1'.heap.size = w.heap.size + 1 by rw [hw1.out]; simp] at hnb
  have ca10 : w2'.cell? ⟨w.heap.size + 1, 0, none⟩ = some (.int .i64 f1) := by simpa using cell_of_heap hnb 0
  have ca11 : w2'.cell? ⟨w.heap.size + 1, 1, none⟩ = some (.int .i64 l1) := by simpa using cell_of_heap hnb 1
  have ca12 : w2'.cell? ⟨w.heap.size + 1, 2, none⟩ = some (.int .i64 t1) := by simpa using cell_of_heap hnb 2
  have hlu2 : w.heap.size + 1 < w2'.heap.size := by have := (show w1'.heap.size = w.heap.size + 1 by rw [hw1.out]; simp); omega
  clear hnb
  go_enter Try.func3, Try.ntmps3
  go_wp2_with fail
  try rw [← hw1.out]
  try rw [← hw2.out]
  have hdr := below_dn (Below.refl w2'.heap.size w2') 1
  have hcr0 := toEdge_any w2'.drew f0 l0 t0
  go_region_held3 (fun z => z.cell? ⟨w.heap.size, 0, none⟩ = some (.int .i64 f0) ∧ z.cell? ⟨w.heap.size, 1, none⟩ = some (.int .i64 l0) ∧ z.cell? ⟨w.heap.size, 2, none⟩ = some (.int .i64 t0) ∧ z.cell? ⟨w.heap.size + 1, 0, none⟩ = some (.int .i64 f1) ∧ z.cell? ⟨w.heap.size + 1, 1, none⟩ = some (.int .i64 l1) ∧ z.cell? ⟨w.heap.size + 1, 2, none⟩ = some (.int .i64 t1)) (first | ((repeat' apply And.intro) <;> assumption) | go_keep) (first | (go_at_call 11; (with_reducible refine hcr0.mono ?_); rintro e w3' ⟨rfl, hbn⟩; replace hbn := hdr.trans hbn; have hb3 := hb2.trans (hbn.mono hb2.size); have hs3 := hbn.size; replace ca00 := (hbn.cell (p := (⟨w.heap.size, 0, none⟩ : Addr)) (show w.heap.size < w2'.heap.size by omega)).trans ca00; replace ca01 := (hbn.cell (p := (⟨w.heap.size, 1, none⟩ : Addr)) (show w.heap.size < w2'.heap.size by omega)).trans ca01; replace ca02 := (hbn.cell (p := (⟨w.heap.size, 2, none⟩ : Addr)) (show w.heap.size < w2'.heap.size by omega)).trans ca02; replace ca10 := (hbn.cell (p := (⟨w.heap.size + 1, 0, none⟩ : Addr)) (show w.heap.size + 1 < w2'.heap.size by omega)).trans ca10; replace ca11 := (hbn.cell (p := (⟨w.heap.size + 1, 1, none⟩ : Addr)) (show w.heap.size + 1 < w2'.heap.size by omega)).trans ca11; replace ca12 := (hbn.cell (p := (⟨w.heap.size + 1, 2, none⟩ : Addr)) (show w.heap.size + 1 < w2'.heap.size by omega)).trans ca12; clear hbn hcr0; have hcr1 := toEdge_any w3' f1 l1 t1) | (go_at_call 11; (with_reducible refine hcr1.mono ?_); rintro e w4' ⟨rfl, hbn⟩; have hb4 := hb3.trans (hbn.mono hb3.size); have hs4 := hbn.size; replace ca00 := (hbn.cell (p := (⟨w.heap.size, 0, none⟩ : Addr)) (show w.heap.size < w3'.heap.size by omega)).trans ca00; replace ca01 := (hbn.cell (p := (⟨w.heap.size, 1, none⟩ : Addr)) (show w.heap.size < w3'.heap.size by omega)).trans ca01; replace ca02 := (hbn.cell (p := (⟨w.heap.size, 2, none⟩ : Addr)) (show w.heap.size < w3'.heap.size by omega)).trans ca02; replace ca10 := (hbn.cell (p := (⟨w.heap.size + 1, 0, none⟩ : Addr)) (show w.heap.size + 1 < w3'.heap.size by omega)).trans ca10; replace ca11 := (hbn.cell (p := (⟨w.heap.size + 1, 1, none⟩ : Addr)) (show w.heap.size + 1 < w3'.heap.size by omega)).trans ca11; replace ca12 := (hbn.cell (p := (⟨w.heap.size + 1, 2, none⟩ : Addr)) (show w.heap.size + 1 < w3'.heap.size by omega)).trans ca12; clear hbn hcr1; have hcr2 := specCmpE w4' f0 l0 t0 f1 l1 t1) | (go_at_call 10; (with_reducible refine hcr2.mono ?_); intro e w5' hpost; rw [← hF0.out] at hpost; obtain ⟨rfl, hbn⟩ := hpost; have hb5 := hb4.trans (hbn.mono hb4.size); have hs5 := hbn.size; replace ca00 := (hbn.cell (p := (⟨w.heap.size, 0, none⟩ : Addr)) (show w.heap.size < w4'.heap.size by omega)).trans ca00; replace ca01 := (hbn.cell (p := (⟨w.heap.size, 1, none⟩ : Addr)) (show w.heap.size < w4'.heap.size by omega)).trans ca01; replace ca02 := (hbn.cell (p := (⟨w.heap.size, 2, none⟩ : Addr)) (show w.heap.size < w4'.heap.size by omega)).trans ca02; replace ca10 := (hbn.cell (p := (⟨w.heap.size + 1, 0, none⟩ : Addr)) (show w.heap.size + 1 < w4'.heap.size by omega)).trans ca10; replace ca11 := (hbn.cell (p := (⟨w.heap.size + 1, 1, none⟩ : Addr)) (show w.heap.size + 1 < w4'.heap.size by omega)).trans ca11; replace ca12 := (hbn.cell (p := (⟨w.heap.size + 1, 2, none⟩ : Addr)) (show w.heap.size + 1 < w4'.heap.size by omega)).trans ca12; clear hbn hcr2))
  clear hdr
  go_wp2_with fail
  have hdr := below_dn (Below.refl w5'.heap.size w5') 1
  have hcr0 := toEdge_any w5'.drew f0 l0 t0
  go_region_held3 (fun z => z.cell? ⟨w.heap.size, 0, none⟩ = some (.int .i64 f0) ∧ z.cell? ⟨w.heap.size, 1, none⟩ = some (.int .i64 l0) ∧ z.cell? ⟨w.heap.size, 2, none⟩ = some (.int .i64 t0) ∧ z.cell? ⟨w.heap.size + 1, 0, none⟩ = some (.int .i64 f1) ∧ z.cell? ⟨w.heap.size + 1, 1, none⟩ = some (.int .i64 l1) ∧ z.cell? ⟨w.heap.size + 1, 2, none⟩ = some (.int .i64 t1)) (first | ((repeat' apply And.intro) <;> assumption) | go_keep) (first | (go_at_call 11; (with_reducible refine hcr0.mono ?_); rintro e w6' ⟨rfl, hbn⟩; replace hbn := hdr.trans hbn; have hb6 := hb5.trans (hbn.mono hb5.size); have hs6 := hbn.size; replace ca00 := (hbn.cell (p := (⟨w.heap.size, 0, none⟩ : Addr)) (show w.heap.size < w5'.heap.size by omega)).trans ca00; replace ca01 := (hbn.cell (p := (⟨w.heap.size, 1, none⟩ : Addr)) (show w.heap.size < w5'.heap.size by omega)).trans ca01; replace ca02 := (hbn.cell (p := (⟨w.heap.size, 2, none⟩ : Addr)) (show w.heap.size < w5'.heap.size by omega)).trans ca02; replace ca10 := (hbn.cell (p := (⟨w.heap.size + 1, 0, none⟩ : Addr)) (show w.heap.size + 1 < w5'.heap.size by omega)).trans ca10; replace ca11 := (hbn.cell (p := (⟨w.heap.size + 1, 1, none⟩ : Addr)) (show w.heap.size + 1 < w5'.heap.size by omega)).trans ca11; replace ca12 := (hbn.cell (p := (⟨w.heap.size + 1, 2, none⟩ : Addr)) (show w.heap.size + 1 < w5'.heap.size by omega)).trans ca12; clear hbn hcr0; have hcr1 := toEdge_any w6' f1 l1 t1) | (go_at_call 11; (with_reducible refine hcr1.mono ?_); rintro e w7' ⟨rfl, hbn⟩; have hb7 := hb6.trans (hbn.mono hb6.size); have hs7 := hbn.size; replace ca00 := (hbn.cell (p := (⟨w.heap.size, 0, none⟩ : Addr)) (show w.heap.size < w6'.heap.size by omega)).trans ca00; replace ca01 := (hbn.cell (p := (⟨w.heap.size, 1, none⟩ : Addr)) (show w.heap.size < w6'.heap.size by omega)).trans ca01; replace ca02 := (hbn.cell (p := (⟨w.heap.size, 2, none⟩ : Addr)) (show w.heap.size < w6'.heap.size by omega)).trans ca02; replace ca10 := (hbn.cell (p := (⟨w.heap.size + 1, 0, none⟩ : Addr)) (show w.heap.size + 1 < w6'.heap.size by omega)).trans ca10; replace ca11 := (hbn.cell (p := (⟨w.heap.size + 1, 1, none⟩ : Addr)) (show w.heap.size + 1 < w6'.heap.size by omega)).trans ca11; replace ca12 := (hbn.cell (p := (⟨w.heap.size + 1, 2, none⟩ : Addr)) (show w.heap.size + 1 < w6'.heap.size by omega)).trans ca12; clear hbn hcr1; have hcr2 := iCmpE w7' f0 l0 t0 f1 l1 t1) | (go_at_call 12; (with_reducible refine hcr2.mono ?_); intro e w8' hpost; rw [← hF0.out] at hpost; obtain ⟨rfl, hbn⟩ := hpost; have hb8 := hb7.trans (hbn.mono hb7.size); have hs8 := hbn.size; replace ca00 := (hbn.cell (p := (⟨w.heap.size, 0, none⟩ : Addr)) (show w.heap.size < w7'.heap.size by omega)).trans ca00; replace ca01 := (hbn.cell (p := (⟨w.heap.size, 1, none⟩ : Addr)) (show w.heap.size < w7'.heap.size by omega)).trans ca01; replace ca02 := (hbn.cell (p := (⟨w.heap.size, 2, none⟩ : Addr)) (show w.heap.size < w7'.heap.size by omega)).trans ca02; replace ca10 := (hbn.cell (p := (⟨w.heap.size + 1, 0, none⟩ : Addr)) (show w.heap.size + 1 < w7'.heap.size by omega)).trans ca10; replace ca11 := (hbn.cell (p := (⟨w.heap.size + 1, 1, none⟩ : Addr)) (show w.heap.size + 1 < w7'.heap.size by omega)).trans ca11; replace ca12 := (hbn.cell (p := (⟨w.heap.size + 1, 2, none⟩ : Addr)) (show w.heap.size + 1 < w7'.heap.size by omega)).trans ca12; clear hbn hcr2))
  clear hdr
  go_wp2_with fail
  go_ret
  exact ⟨rfl, hb8⟩
theorem walk (W : World) (f0 l0 t0 : Int) (f1 l1 t1 : Int) (u0 : (Lit.int .i64 f0).wf = true) (y0 : (Lit.int .i64 l0).wf = true) (w0 : (Lit.int .i64 t0).wf = true) (u1 : (Lit.int .i64 f1).wf = true) (y1 : (Lit.int .i64 l1).wf = true) (w1 : (Lit.int .i64 t1).wf = true) :
    Calls Try.prog 3 #[.agg #[.int .i64 f0, .int .i64 l0, .int .i64 t0], .agg #[.int .i64 f1, .int .i64 l1, .int .i64 t1]] W fun e w' => e = .returned (.bool true) ∧ Below W.heap.size W w' := by
  exact walk0 W f0 l0 t0 (wf_i64 u0) (wf_i64 y0) (wf_i64 w0) f1 l1 t1 (wf_i64 u1) (wf_i64 y1) (wf_i64 w1)

/-! ### The row's step -/
set_option maxRecDepth 100000 in
theorem lifted (os : Os) (started : os.Started) (H : Type) (enc : TypeId × Value → H) :
    ReturnsInHanded {} Try.checked os 3 .any (Rows.fnExactCompareEdgesSpec.pre6 enc Try.prog Try.f3 Rows.fnExactCompareEdgesRow.domain false) (Rows.fnExactCompareEdgesSpec.post enc Try.prog Try.f3 false true false false) := by
  refine returnsInHanded_of_change (C := Try.checked) own started (by kernel_rfl) Try.func3
    (ChangeSpec.witness6 (enc := enc) (C := Try.checked) false ⟨#[], #[.agg #[.int .i64 0, .int .i64 0, .int .i64 0], .agg #[.int .i64 0, .int .i64 0, .int .i64 0]], []⟩ 8 (by kernel_rfl) (by kernel_rfl) (by kernel_rfl) (by kernel_rfl)) ?_
  intro W base args ds gs before hval0 hW hcnd _
  have hval : ∀ (j : Nat) t v, Try.f3.params[j]? = some t → args[j]? = some v → Value.okWide Try.prog W .any base t v := hval0
  have hW' := hW
  obtain ⟨p, q, hA0, hV, rfl, hfz, hnd⟩ := hW
  have hA : DataW.TrodAll enc Try.prog W 0 (fun _ => true) true Try.f3.params.toList args.toList ds p := hA0
  rw [Try.params3] at hA hval
  obtain ⟨v0, vs0, d0, ds0, p0, q0, hargs, rfl, rfl, h0, r0⟩ := trodAll_cons hA
  obtain ⟨v1, vs1, d1, ds1, p1, q1, rfl, rfl, rfl, h1, r1⟩ := trodAll_cons r0
  obtain ⟨rfl, rfl, rfl⟩ := trodAll_nil r1
  obtain rfl : args = #[v0, v1] := by cases args; simp_all
  obtain ⟨rfl, rfl⟩ := trodVars_none hV
  have k0 := h0
  have lt0 : ∀ x ∈ p0, x.block < W.heap.size := by obtain ⟨m, hm⟩ := k0; exact DataW.trod_lt m _ _ _ hm
  obtain ⟨gf0, gl0, gt0, rfl, u0, y0, w0⟩ := open_edge (hval 0 23 v0 rfl rfl) h0
  have k1 := h1
  have lt1 : ∀ x ∈ p1, x.block < W.heap.size := by obtain ⟨m, hm⟩ := k1; exact DataW.trod_lt m _ _ _ hm
  obtain ⟨gf1, gl1, gt1, rfl, u1, y1, w1⟩ := open_edge (hval 1 23 v1 rfl rfl) h1
  clear hA0 hval0
  refine (walk W gf0 gl0 gt0 gf1 gl1 gt1 u0 y0 w0 u1 y1 w1).mono fun e W' ⟨he, hg⟩ => ?_
  subst he
  exact ⟨_, rfl, _, _, _, [], _, [], hW', trodAll_mk1 (shut_bool Try.underlying4 _), (trodAll_cons_mk (Below.trod laidOut (by kernel_rfl) (of_decide_eq_true (by kernel_rfl)) k0 hg lt0) (trodAll_cons_mk (Below.trod laidOut (by kernel_rfl) (of_decide_eq_true (by kernel_rfl)) k1 hg lt1) trodAll_mk0)), rfl, hg.frame _, fun h => by cases h⟩

theorem over : Rows.fnExactCompareEdgesRow.holds Try.pinned (OpenSpec.ofChange Rows.fnExactCompareEdgesSpec) :=
  OpenClaim.holds_of_wide 3 Try.f3 rfl rfl rfl rfl rfl rfl rfl ⟨rfl, rfl, rfl, rfl, rfl⟩ rfl rfl rfl rfl rfl (by kernel_rfl) Try.func3 (by kernel_rfl)
    (of_decide_eq_true (by kernel_rfl)) (by unfold Func.isWrapper; first | (rw [if_pos (by decide +kernel)]; kernel_rfl) | (rw [if_neg (by decide +kernel)]; exact ⟨rfl, rfl⟩))
    (fun os started H enc _ => lifted os started H enc)

theorem proved : Rows.FnExactCompareEdgesSaid := over
#print axioms proved
end Go.Proofs.Ytkmhncbakfnfeaa.fnExactCompareEdges
