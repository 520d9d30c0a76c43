/- The drawn numbers and texts (spec/l01_num.go): l1Num, l1Text and the drawers of chapter 1. -/
import Derived.Test.YtdacfnoemjleiaaDoorDrB
namespace Go.Proofs.YtdacfnoemjleiaaDoor
open Go.RowKit
set_option linter.unusedVariables false

theorem l1Below_lit (B : Nat) (w : World) (g : Nat) (a : Option Addr) (len cap : Nat) (hc : CurAt B w g a len cap) (hcode : CodeIn B w a len) (N : Int) (n : Nat) (hN : N = (n : Int)) (hn : 1 ≤ n) (hn2 : n ≤ 4294967296) :
    Calls Tryd.prog 24 #[.pointer (some ⟨g, 0, none⟩), .int .i64 N] w (IntRet 0 (N - 1) B w g a len cap) := by
  subst hN
  exact l1Below_any B w g a len cap hc hcode n hn hn2
theorem CurAt.lt {B : Nat} {w : World} {g : Nat} {a : Option Addr} {len cap : Nat} (h : CurAt B w g a len cap) : g < w.heap.size := by
  obtain ⟨_, i, hh, _, hheap⟩ := h
  exact (Array.getElem?_eq_some_iff.1 hheap).1
theorem CurAt.alloc {B : Nat} {w : World} {g : Nat} {a : Option Addr} {len cap : Nat} (h : CurAt B w g a len cap) (o : Obj) : CurAt B (w.alloc o) g a len cap := by
  have hlt := h.lt
  obtain ⟨hB, i, hh, hi, hheap⟩ := h
  exact ⟨hB, i, hh, hi, by rw [Below.heap_alloc _ _ _ hlt]; exact hheap⟩
/-- The cursor stands where the call writes from base on. -/
theorem CurAt.over {B base : Nat} {w w' : World} {g : Nat} {a : Option Addr} {len cap : Nat} (h : CurAt B w g a len cap) (hg : g < base) (hb : Below base w w') : CurAt B w' g a len cap := by
  obtain ⟨hB, i, hh, hi, hheap⟩ := h
  exact ⟨hB, i, hh, hi, by rw [hb.block g hg]; exact hheap⟩
theorem ints_lit (w : World) (zs : List Int) (C : Array Value) (hC : C = (zs.map (Value.int .i64)).toArray) (hz : ∀ z ∈ zs, Fit z) : Ints (w.alloc (.cells C 3)) w.heap.size zs.length := by
  subst hC
  intro j hj
  refine ⟨zs[j], hz _ (List.getElem_mem hj), ?_⟩
  rw [World.cell?_alloc_new]
  simp [hj]
def edges : List Int := [-1, 0, 127, 128, 255, 256, 16383, 16384, 65535, 65536, 562949953421311, 562949953421312, 999999999, 1000000000, -999999999, 9223372036854775807, -9223372036854775808]
theorem edges_fit : ∀ z ∈ edges, Fit z := by
  intro z hz
  have h : edges.all (fun z => decide (-9223372036854775808 ≤ z ∧ z ≤ 9223372036854775807)) = true := by decide
  have h2 := List.all_eq_true.1 h z hz
  have h3 : -9223372036854775808 ≤ z ∧ z ≤ 9223372036854775807 := of_decide_eq_true h2
  exact h3
/-- What l1Num leaves. -/
def NumRet (B : Nat) (w : World) (g : Nat) (a : Option Addr) (len cap : Nat) (e : Ending) (w' : World) : Prop :=
  ∃ x : Int, Fit x ∧ e = .returned (.int .i64 x) ∧ Below B w w' ∧ CurAt B w' g a len cap
theorem NumRet.mk' {B : Nat} {w : World} {g : Nat} {a : Option Addr} {len cap : Nat} {x : Int} {w' : World} (h1 : Fit x) (hg : Below B w w') (hc : CurAt B w' g a len cap) : NumRet B w g a len cap (.returned (.int .i64 x)) w' :=
  ⟨x, h1, rfl, hg, hc⟩
theorem prod_bd {x y : Int} (hx0 : 0 ≤ x) (hx1 : x ≤ 999999999) (hy0 : 0 ≤ y) (hy1 : y ≤ 999999999) : 0 ≤ x * y ∧ x * y ≤ 999999998000000001 := by
  refine ⟨Int.mul_nonneg hx0 hy0, ?_⟩
  have := Int.mul_le_mul hx1 hy1 hy0 (by omega)
  omega

set_option maxHeartbeats 1600000 in
set_option maxRecDepth 100000 in
theorem l1Num_any (B : Nat) (w : World) (g : Nat) (a : Option Addr) (len cap : Nat) (hc : CurAt B w g a len cap) (hcode : CodeIn B w a len) :
    Calls Tryd.prog 22 #[.pointer (some ⟨g, 0, none⟩)] w (NumRet B w g a len cap) := by
  replace hc := hid hc
  replace hcode := hid hcode
  go_enter Tryd.func22, Tryd.ntmps22
  go_wp2_with fail
  refine (l1Below_lit B _ g a len cap hc.out hcode.out 8 8 rfl (by omega) (by omega)).mono ?_
  rintro e w1 ⟨x, hx0, hx1, rfl, hg1, hc1⟩
  have hb1 := hc.out.below hg1
  have hcode1 := hid (hcode.out.below hb1)
  replace hc1 := hid hc1
  clear hg1
  by_cases h0 : x = 0
  · subst h0
    go_wp2_with fail
    have hC : CurAt B (w1.alloc (.cells (edges.map (Value.int .i64)).toArray 3)) g a len cap := hc1.out.alloc _
    have hB1 : Below B w1 (w1.alloc (.cells (edges.map (Value.int .i64)).toArray 3)) := (Below.refl _ _).alloc (by have := hc1.out.lt; have := hc1.out.1; omega) _
    refine (l1PickInt_any B _ g a len cap hC (hcode1.out.below hB1) w1.heap.size 17 (by omega) (by omega) (by have := hc1.out.lt; omega) (ints_lit w1 edges _ rfl edges_fit)).mono ?_
    rintro e w2 ⟨y, hy0, hy1, rfl, hg2, hc2⟩
    have hb2 := hb1.trans (hB1.trans (hC.below hg2))
    have hy : Fit y := ⟨hy0, hy1⟩
    clear hy0 hy1 hg2 hC hB1
    replace hc2 := hid hc2
    replace hy := hid hy
    go_wp2_with fail
    go_ret
    exact NumRet.mk' hy.out hb2 hc2.out
  · by_cases h1 : x = 1
    · subst h1
      go_wp2_with fail
      refine (l1Below_lit B _ g a len cap hc1.out hcode1.out 1000000000 1000000000 rfl (by omega) (by omega)).mono ?_
      rintro e w2 ⟨y, hy0, hy1, rfl, hg2, hc2⟩
      have hb2 := hc1.out.below hg2
      have hcode2 := hid (hcode1.out.below hb2)
      replace hc2 := hid hc2
      clear hg2
      go_wp2_with fail
      refine (l1Below_lit B _ g a len cap hc2.out hcode2.out 1000000000 1000000000 rfl (by omega) (by omega)).mono ?_
      rintro e w3 ⟨z, hz0, hz1, rfl, hg3, hc3⟩
      have hb3 := hb1.trans (hb2.trans (hc2.out.below hg3))
      have hp := prod_bd hy0 (by omega) hz0 (by omega)
      obtain ⟨hp1, hp2⟩ := hp
      have hfit : Fit (y * z) := ⟨by omega, by omega⟩
      replace hfit := hid hfit
      replace hc3 := hid hc3
      clear hg3
      go_wp2_with fail
      go_ret
      exact NumRet.mk' hfit.out hb3 hc3.out
    · by_cases h2 : x = 2
      · subst h2
        go_wp2_with fail
        refine (l1Below_lit B _ g a len cap hc1.out hcode1.out 100000 100000 rfl (by omega) (by omega)).mono ?_
        rintro e w2 ⟨y, hy0, hy1, rfl, hg2, hc2⟩
        have hb2 := hb1.trans (hc1.out.below hg2)
        have hfit : Fit (-y) := ⟨by omega, by omega⟩
        replace hfit := hid hfit
        replace hc2 := hid hc2
        clear hg2
        go_wp2_with fail
        go_ret
        exact NumRet.mk' hfit.out hb2 hc2.out
      · have e0 : (x == 0) = false := by rw [beq_eq_false_iff_ne]; exact h0
        have e1 : (x == 1) = false := by rw [beq_eq_false_iff_ne]; exact h1
        have e2 : (x == 2) = false := by rw [beq_eq_false_iff_ne]; exact h2
        clear h0 h1 h2
        go_wp2_with fail
        refine (l1Below_lit B _ g a len cap hc1.out hcode1.out 70000 70000 rfl (by omega) (by omega)).mono ?_
        rintro e w2 ⟨y, hy0, hy1, rfl, hg2, hc2⟩
        have hb2 := hb1.trans (hc1.out.below hg2)
        have hfit : Fit y := ⟨by omega, by omega⟩
        replace hfit := hid hfit
        replace hc2 := hid hc2
        clear hg2
        go_wp2_with fail
        go_ret
        exact NumRet.mk' hfit.out hb2 hc2.out
end Go.Proofs.YtdacfnoemjleiaaDoor
