/- The laws' own helpers on graphs: toGraph, eqGraph, markGraph, heldGraph, szGraph. -/
import Derived.Test.YtdeofaimgldklaaHK
import Derived.Test.YtdeofaimgldklaaGC
namespace Go.Proofs.Ytdeofaimgldklaa
open Go.RowKit
set_option linter.unusedVariables false

/-- What a function that hands back a graph leaves: rank r, size s, n edges, the ints zs. -/
def GraphRet (w : World) (r s : Int) (n : Nat) (zs : List Int) (e : Ending) (w' : World) : Prop :=
  ∃ a cap, e = .returned (.agg #[.int .i64 r, .int .i64 s, .slice a n cap]) ∧ RowS 68 3 w' w.heap.size w'.heap.size (.slice a n cap) n zs ∧ Below w.heap.size w w'
theorem EdgesRet.form {w w' : World} {n : Nat} {zs : List Int} {e : Ending} (h : EdgesRet w n zs e w') : ∃ a cap, e = .returned (.slice a n cap) ∧ RowS 68 3 w' w.heap.size w'.heap.size (.slice a n cap) n zs ∧ Below w.heap.size w w' := by
  obtain ⟨v, rfl, hr, hb⟩ := h
  obtain ⟨a, cap, rfl, _⟩ := hr.read.form
  exact ⟨a, cap, rfl, hr, hb⟩
theorem sizeGraph : (Try.prog.info? 32).map (·.size) = some 3 := by kernel_rfl
/-- A block of three cells is written whole. -/
theorem set3 {w : World} {g : Nat} {T : TypeId} {x0 x1 x2 : Value} (h : w.heap[g]? = some (.cells #[x0, x1, x2] T (0, 0))) (v0 v1 v2 : Value) :
    (((w.setCell ⟨g, 0, none⟩ v0).setCell ⟨g, 1, none⟩ v1).setCell ⟨g, 2, none⟩ v2).heap[g]? = some (.cells #[v0, v1, v2] T (0, 0)) := by
  have h3 := heap_setCell_same _ g 2 _ T v2 (heap_setCell_same _ g 1 _ T v1 (heap_setCell_same w g 0 _ T v0 h))
  simpa using h3
set_option maxHeartbeats 1600000 in
theorem toGraph_any (w : World) (r s : Int) (v : Value) (n : Nat) (zs : List Int) (h : ReadS 3 w.heap.size w v n zs) (hl : n ≤ 1000000000) :
    Calls Try.prog 11 #[.agg #[.int .i64 r, .int .i64 s, v]] w (GraphRet w r s n zs) := by
  obtain ⟨a, cap, rfl, hnc⟩ := h.form
  obtain ⟨w1, hw1⟩ : ∃ w1, w1 = ((w.alloc (.cells #[.int .i64 r, .int .i64 s, .slice a n cap] 24)).alloc (.cells #[.int .i64 0, .int .i64 0, .slice none 0 0] 32)).alloc (.cells #[.int .i64 r, .int .i64 s, .slice none 0 0] 32) := ⟨_, rfl⟩
  have hb1 : Below w.heap.size w w1 := by rw [hw1]; exact (((Below.refl _ _).alloc (Nat.le_refl _) _).alloc (by simp) _).alloc (by simp; omega) _
  have hs1 : w1.heap.size = w.heap.size + 1 + 1 + 1 := by rw [hw1]; simp
  have hcall := toEdgeS_any w1 _ n zs ((h.below hb1).mono hb1.size) hl
  have hk1 : w1.heap[w.heap.size + 1]? = some (.cells #[.int .i64 0, .int .i64 0, .slice none 0 0] 32 (0, 0)) := by rw [hw1]; exact heap_mid _ _ _ _
  have hk2 : w1.heap[w.heap.size + 1 + 1]? = some (.cells #[.int .i64 r, .int .i64 s, .slice none 0 0] 32 (0, 0)) := by
    rw [hw1]
    have := heap_alloc_new ((w.alloc (.cells #[.int .i64 r, .int .i64 s, .slice a n cap] 24)).alloc (.cells #[.int .i64 0, .int .i64 0, .slice none 0 0] 32)) (.cells #[.int .i64 r, .int .i64 s, .slice none 0 0] 32)
    simpa using this
  replace hw1 := hidI hw1
  replace h := hidI h
  replace hs1 := hidI hs1
  replace hk1 := hidI hk1
  replace hk2 := hidI hk2
  go_enter Try.func11, Try.ntmps11
  go_wp2_with fail
  rw [← hw1.out]
  refine hcall.mono ?_
  intro e w2 h2
  obtain ⟨b, cap2, rfl, hrow, hb2⟩ := h2.form
  have hk1' : w2.heap[w.heap.size + 1]? = some (.cells #[.int .i64 0, .int .i64 0, .slice none 0 0] 32 (0, 0)) := by rw [hb2.block _ (by have := hs1.out; omega)]; exact hk1.out
  have hk2' : w2.heap[w.heap.size + 1 + 1]? = some (.cells #[.int .i64 r, .int .i64 s, .slice none 0 0] 32 (0, 0)) := by rw [hb2.block _ (by have := hs1.out; omega)]; exact hk2.out
  have c10 := cell_of_heap hk1' 0
  have c11 := cell_of_heap hk1' 1
  have c12 := cell_of_heap hk1' 2
  have c20 := cell_of_heap hk2' 0
  have c21 := cell_of_heap hk2' 1
  have c22 := cell_of_heap hk2' 2
  have f1 := fun j => frozen_of_row w2 (w.heap.size + 1) j _ _ hk1'
  have f2 := fun j => frozen_of_row w2 (w.heap.size + 1 + 1) j _ _ hk2'
  clear hcall h2
  simp at c10 c11 c12 c20 c21 c22
  go_wp2
  (try simp only [Exit.inBlock, Exit.then])
  have hg2 : (w2.setCell ⟨w.heap.size + 1 + 1, 2, none⟩ (.slice b n cap2)).heap[w.heap.size + 1]? = some (.cells #[.int .i64 0, .int .i64 0, .slice none 0 0] 32 (0, 0)) := by
    rw [Below.heap_setCell _ _ _ _ (show w.heap.size + 1 ≠ w.heap.size + 1 + 1 by omega)]
    exact hk1'
  refine ret_cell rfl (g := w.heap.size + 1) rfl (set3 hg2 _ _ _) Try.underlying32 sizeGraph ?_
  have hs := hs1.out
  have hsz : w2.heap.size = ((((w2.setCell ⟨w.heap.size + 1 + 1, 2, none⟩ (.slice b n cap2)).setCell ⟨w.heap.size + 1, 0, none⟩ (.int .i64 r)).setCell ⟨w.heap.size + 1, 1, none⟩ (.int .i64 s)).setCell ⟨w.heap.size + 1, 2, none⟩ (.slice b n cap2)).heap.size := by simp [World.setCell]
  refine ⟨b, cap2, rfl, ?_, ?_⟩
  · rw [← hsz]
    refine RowS.wide (RowS.keep hrow (fun k h1 h2 => ?_)) (show w.heap.size ≤ w1.heap.size by omega) (Nat.le_refl _)
    rw [Below.heap_setCell _ _ _ _ (show k ≠ w.heap.size + 1 by omega), Below.heap_setCell _ _ _ _ (show k ≠ w.heap.size + 1 by omega), Below.heap_setCell _ _ _ _ (show k ≠ w.heap.size + 1 by omega), Below.heap_setCell _ _ _ _ (show k ≠ w.heap.size + 1 + 1 by omega)]
  · have hbz := hb1.trans (hb2.mono hb1.size)
    exact (((hbz.setCell (p := ⟨w.heap.size + 1 + 1, 2, none⟩) (by simp; omega) _).setCell (p := ⟨w.heap.size + 1, 0, none⟩) (by simp) _).setCell (p := ⟨w.heap.size + 1, 1, none⟩) (by simp) _).setCell (p := ⟨w.heap.size + 1, 2, none⟩) (by simp) _
set_option maxHeartbeats 1600000 in
theorem eqGraph_same (w : World) (r s : Int) (v1 v2 : Value) (n : Nat) (zs : List Int) (h1 : ReadS 3 w.heap.size w v1 n zs) (h2 : ReadS 3 w.heap.size w v2 n zs) :
    Calls Try.prog 14 #[.agg #[.int .i64 r, .int .i64 s, v1], .agg #[.int .i64 r, .int .i64 s, v2]] w (TellRet w true) := by
  obtain ⟨a1, cap1, rfl, hnc1⟩ := h1.form
  obtain ⟨a2, cap2, rfl, hnc2⟩ := h2.form
  obtain ⟨w1, hw1⟩ : ∃ w1, w1 = (w.alloc (.cells #[.int .i64 r, .int .i64 s, .slice a1 n cap1] 32)).alloc (.cells #[.int .i64 r, .int .i64 s, .slice a2 n cap2] 32) := ⟨_, rfl⟩
  have hb1 : Below w.heap.size w w1 := by rw [hw1]; exact ((Below.refl _ _).alloc (Nat.le_refl _) _).alloc (by simp) _
  have hcall := eqEdgeS_same w1 _ _ n zs ((h1.below hb1).mono hb1.size) ((h2.below hb1).mono hb1.size)
  have g1 : (r != r) = false := by simp
  have g2 : (s != s) = false := by simp
  replace hw1 := hidI hw1
  replace h1 := hidI h1
  replace h2 := hidI h2
  go_enter Try.func14, Try.ntmps14
  go_wp2_with fail
  rw [← hw1.out]
  refine hcall.mono ?_
  rintro e w2 ⟨rfl, hb2⟩
  have hb := hb1.trans (hb2.mono hb1.size)
  clear hcall hb2 hb1
  go_wp2
  go_ret
  exact ⟨rfl, hb⟩
theorem markGraph_any (w : World) (lo hi : Nat) (r s : Int) (v : Value) (n : Nat) (zs : List Int) (k : Int) (h : RowS 68 3 w lo hi v n zs) (hhi : hi ≤ w.heap.size) (hk : 0 ≤ k) (hk2 : k ≤ 1000000000000) (hl : n ≤ 1000000000) :
    Calls Try.prog 18 #[.agg #[.int .i64 r, .int .i64 s, v], .int .i64 k] w fun e w' => e = .returned (.int .i64 (k + 3 * n)) ∧ RowS 68 3 w' lo hi v n (marks k (n * 3)) ∧ ∃ w1, Below w.heap.size w w1 ∧ Only lo hi w1 w' := by
  obtain ⟨a, cap, rfl, hnc⟩ := h.read.form
  obtain ⟨w1, hw1⟩ : ∃ w1, w1 = w.alloc (.cells #[.int .i64 r, .int .i64 s, .slice a n cap] 32) := ⟨_, rfl⟩
  have hb1 : Below w.heap.size w w1 := by rw [hw1]; exact (Below.refl _ _).alloc (Nat.le_refl _) _
  have hcall := markEdgeS_any w1 lo hi _ n zs k (h.below hb1 hhi) hk hk2 hl
  replace hw1 := hidI hw1
  replace h := hidI h
  go_enter Try.func18, Try.ntmps18
  go_wp2_with fail
  rw [← hw1.out]
  refine hcall.mono ?_
  rintro e w2 ⟨rfl, hrow, hon⟩
  replace hrow := hidI hrow
  clear hcall
  go_wp2
  go_ret
  exact ⟨rfl, hrow.out, w1, hb1, hon⟩
theorem heldGraph_any (w : World) (r s : Int) (v : Value) (n : Nat) (k : Int) (h : ReadS 3 w.heap.size w v n (marks k (n * 3))) (hk : 0 ≤ k) (hk2 : k ≤ 1000000000000) (hl : n ≤ 1000000000) :
    Calls Try.prog 19 #[.agg #[.int .i64 r, .int .i64 s, v], .int .i64 k] w fun e w' => e = .returned (.int .i64 (k + 3 * n)) ∧ Below w.heap.size w w' := by
  obtain ⟨a, cap, rfl, hnc⟩ := h.form
  obtain ⟨w1, hw1⟩ : ∃ w1, w1 = w.alloc (.cells #[.int .i64 r, .int .i64 s, .slice a n cap] 32) := ⟨_, rfl⟩
  have hb1 : Below w.heap.size w w1 := by rw [hw1]; exact (Below.refl _ _).alloc (Nat.le_refl _) _
  have hcall := heldEdgeS_any w1 w.heap.size _ n k (h.below hb1) hk hk2 hl
  have hng : ¬ k + 3 * (n : Int) < 0 := by omega
  replace hw1 := hidI hw1
  replace h := hidI h
  go_enter Try.func19, Try.ntmps19
  go_wp2_with fail
  rw [← hw1.out]
  refine hcall.mono ?_
  rintro e w2 ⟨rfl, rfl⟩
  clear hcall
  go_wp2
  go_ret
  exact ⟨rfl, hb1⟩
theorem szGraph_any (w : World) (r s : Int) (a : Option Addr) (n cap : Nat) (left : Int) (hn : (n : Int) ≤ 9223372036854775807) (hl0 : 0 ≤ left) (hl1 : left ≤ 1048576) :
    Calls Try.prog 9 #[.agg #[.int .i64 r, .int .i64 s, .slice a n cap], .int .i64 left] w fun e w' => e = .returned (.int .i64 (if left < n then -1 else left - n)) ∧ Below w.heap.size w w' := by
  have hb1 := (Below.refl w.heap.size w).alloc (Nat.le_refl _) (.cells #[.int .i64 r, .int .i64 s, .slice a n cap] 24)
  have hcall := fun w1 => szEdgeS_any w1 a n cap left hn hl0 hl1
  obtain ⟨q, hq⟩ : ∃ q, q = (if left < n then -1 else left - n) := ⟨_, rfl⟩
  rw [← hq] at hcall
  rw [← hq]
  by_cases h : left < (n : Int)
  · rw [if_pos h] at hq
    subst hq
    go_enter Try.func9, Try.ntmps9
    go_wp2_with fail
    refine (hcall _).mono ?_
    rintro e w2 ⟨rfl, rfl⟩
    clear hcall
    go_wp2
    go_ret
    exact ⟨rfl, hb1⟩
  · rw [if_neg h] at hq
    have hng : ¬ q < 0 := by omega
    replace hq := hidI hq
    go_enter Try.func9, Try.ntmps9
    go_wp2_with fail
    refine (hcall _).mono ?_
    rintro e w2 ⟨rfl, rfl⟩
    clear hcall
    go_wp2
    go_ret
    exact ⟨rfl, hb1⟩
end Go.Proofs.Ytdeofaimgldklaa
