/- The drawn numbers and texts (spec/l01_num.go): l1Num, l1Text and the drawers of chapter 1. -/
import Derived.Test.YtcjkgknmpgehbaaDrB
namespace Go.Proofs.Ytcjkgknmpgehbaa
open Go.RowKit
set_option linter.unusedVariables false

theorem l1Below_lit (B : Nat) (w : World) (g : Nat) (a : Option Addr) (len cap : Nat) (hc : CurAt B w g a len cap) (hcode : CodeIn B w a len) (N : Int) (n : Nat) (hN : N = (n : Int)) (hn : 1 ≤ n) (hn2 : n ≤ 4294967296) :
    Calls Try.prog 60 #[.pointer (some ⟨g, 0, none⟩), .int .i64 N] w (RangeRet 0 (N - 1) B w g a len cap) := by
  subst hN
  exact l1Below_any B w g a len cap hc hcode n hn hn2
theorem CurAt.lt {B : Nat} {w : World} {g : Nat} {a : Option Addr} {len cap : Nat} (h : CurAt B w g a len cap) : g < w.heap.size := by
  obtain ⟨_, i, hh, _, hheap⟩ := h
  exact (Array.getElem?_eq_some_iff.1 hheap).1
theorem CurAt.alloc {B : Nat} {w : World} {g : Nat} {a : Option Addr} {len cap : Nat} (h : CurAt B w g a len cap) (o : Obj) : CurAt B (w.alloc o) g a len cap := by
  have hlt := h.lt
  obtain ⟨hB, i, hh, hi, hheap⟩ := h
  exact ⟨hB, i, hh, hi, by rw [Below.heap_alloc _ _ _ hlt]; exact hheap⟩
/-- The cursor stands where the call writes from base on. -/
theorem CurAt.over {B base : Nat} {w w' : World} {g : Nat} {a : Option Addr} {len cap : Nat} (h : CurAt B w g a len cap) (hg : g < base) (hb : Below base w w') : CurAt B w' g a len cap := by
  obtain ⟨hB, i, hh, hi, hheap⟩ := h
  exact ⟨hB, i, hh, hi, by rw [hb.block g hg]; exact hheap⟩
theorem ints_lit (w : World) (zs : List Int) (C : Array Value) (hC : C = (zs.map (Value.int .i64)).toArray) (hz : ∀ z ∈ zs, Fit z) : Ints (w.alloc (.cells C 3)) w.heap.size zs.length := by
  subst hC
  intro j hj
  refine ⟨zs[j], hz _ (List.getElem_mem hj), ?_⟩
  rw [World.cell?_alloc_new]
  simp [hj]
def edges : List Int := [-1, 0, 127, 128, 255, 256, 16383, 16384, 65535, 65536, 562949953421311, 562949953421312, 999999999, 1000000000, -999999999, 9223372036854775807, -9223372036854775808]
theorem edges_fit : ∀ z ∈ edges, Fit z := by
  intro z hz
  have h : edges.all (fun z => decide (-9223372036854775808 ≤ z ∧ z ≤ 9223372036854775807)) = true := by decide
  have h2 := List.all_eq_true.1 h z hz
  have h3 : -9223372036854775808 ≤ z ∧ z ≤ 9223372036854775807 := of_decide_eq_true h2
  exact h3
/-- What l1Num leaves. -/
def NumRet (B : Nat) (w : World) (g : Nat) (a : Option Addr) (len cap : Nat) (e : Ending) (w' : World) : Prop :=
  ∃ x : Int, Fit x ∧ e = .returned (.int .i64 x) ∧ Below B w w' ∧ CurAt B w' g a len cap
theorem NumRet.mk' {B : Nat} {w : World} {g : Nat} {a : Option Addr} {len cap : Nat} {x : Int} {w' : World} (h1 : Fit x) (hg : Below B w w') (hc : CurAt B w' g a len cap) : NumRet B w g a len cap (.returned (.int .i64 x)) w' :=
  ⟨x, h1, rfl, hg, hc⟩
theorem prod_bd {x y : Int} (hx0 : 0 ≤ x) (hx1 : x ≤ 999999999) (hy0 : 0 ≤ y) (hy1 : y ≤ 999999999) : 0 ≤ x * y ∧ x * y ≤ 999999998000000001 := by
  refine ⟨Int.mul_nonneg hx0 hy0, ?_⟩
  have := Int.mul_le_mul hx1 hy1 hy0 (by omega)
  omega

end Go.Proofs.Ytcjkgknmpgehbaa
