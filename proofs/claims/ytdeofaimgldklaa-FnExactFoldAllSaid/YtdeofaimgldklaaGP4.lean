/- Graphs, the program: slices.Clone at edges, copyOfGraph, AddVertex. -/
import Derived.Test.YtdeofaimgldklaaGP3
import Derived.Test.YtdeofaimgldklaaGS10
import Derived.Lib.SliceRun
namespace Go.Proofs.Ytdeofaimgldklaa
open Go.RowKit
set_option linter.unusedVariables false
set_option linter.unusedSimpArgs false

set_option maxHeartbeats 800000 in
theorem gpClone (w : World) (v : Value) (es : List Ed) (h : ReadE w.heap.size w v es) (hl : es.length ≤ 1000000000) :
    Calls Try.prog 64 #[v] w (LwEdges w es) := by
  have hread := h
  obtain ⟨hzl, _, a, cap, rfl, ⟨hnil, _⟩, hr⟩ := h
  obtain ⟨n, hn⟩ : ∃ n, n = es.length := ⟨_, rfl⟩
  rcases a with _ | ad
  · have hz : es = [] := by
      rcases hr with h0 | ⟨b, off, ha, _⟩
      · exact List.eq_nil_of_length_eq_zero h0
      · cases ha
    have hc0 := hnil rfl
    subst hc0
    subst hz
    have hr : LwEdges w [] (.returned (.slice none 0 0)) w := ⟨none, 0, rfl, ((OwnsS.nil _ _).row (by omega)).wide (Nat.le_refl _) (Nat.le_refl _), Below.refl _ _⟩
    replace hr := hidI hr
    have heq := fun W : World => Lib.run_eql_slice_nil (P := Try.prog) W 30 68 none 0 0 0 0 Try.underlying30
    clear hread hn hnil
    go_enter Try.func64, Try.ntmps64
    go_wp2
    go_ret
    exact hr.out
  · have hlit : OwnsE (w.alloc (.cells #[] 68)) w.heap.size (.slice (some ⟨w.heap.size, 0, none⟩) 0 0) [] := OwnsE.litE w
    have hb0 := (Below.refl w.heap.size w).alloc (Nat.le_refl _) (.cells #[] 68)
    have hx := hread.below hb0
    have hl3 : ([] : List Ed).length + es.length ≤ 1000000000 := by simp; omega
    have hl4 : es.length ≤ 1000000000000 := by omega
    replace hlit := hidI hlit
    replace hx := hidI hx
    replace hl4 := hidI hl4
    rw [← hn]
    replace hl3 := hidI hl3
    have hx' : Hid (ReadE w.heap.size (w.alloc (.cells #[] 68)) (.slice (some ad) n cap) es) := hidI (by rw [hn]; exact hx.out)
    clear hx
    replace hn := hidI hn
    replace hread := hidI hread
    clear hr hnil hzl
    have heq := fun W : World => Lib.run_eql_slice_nil (P := Try.prog) W 30 68 (some ad) n cap 0 0 Try.underlying30
    go_enter Try.func64, Try.ntmps64
    go_wp2_with (at_builtin; go_must (refine wpList_pushAllE rfl _ _ rfl w.heap.size _ _ [] es w.heap.size rfl rfl (by exact hlit.out) (by exact hx'.out) hl3.out (by simp) ?_))
    intro v1 w1 hown1 hb1'
    have hb1 := hb0.trans hb1'
    have hr : LwEdges w es (.returned v1) w1 := lwEdges_owns (by simpa using hown1) hb1 (Nat.le_refl _) hl4.out
    replace hr := hidI hr
    clear hown1 hb1' hlit hx' hb0 hb1
    go_wp2
    go_ret
    exact hr.out
/-- A row of the call's own, three cells written in an older block. -/
theorem RowS.set3_ {T : TypeId} {sz n lo hi b : Nat} {w : World} {v x0 x1 x2 : Value} {zs : List Int} (h : RowS T sz w lo hi v n zs) (hb : b < lo ∨ hi ≤ b) : RowS T sz (((w.setCell ⟨b, 0, none⟩ x0).setCell ⟨b, 1, none⟩ x1).setCell ⟨b, 2, none⟩ x2) lo hi v n zs :=
  h.keep (fun k h1 h2 => by rw [Below.heap_setCell _ _ _ _ (show k ≠ b by omega), Below.heap_setCell _ _ _ _ (show k ≠ b by omega), Below.heap_setCell _ _ _ _ (show k ≠ b by omega)])
theorem below_set3 {B b : Nat} {w w' : World} {x0 x1 x2 : Value} (h : Below B w w') (hb : B ≤ b) : Below B w (((w'.setCell ⟨b, 0, none⟩ x0).setCell ⟨b, 1, none⟩ x1).setCell ⟨b, 2, none⟩ x2) :=
  ((h.setCell (p := ⟨b, 0, none⟩) hb _).setCell (p := ⟨b, 1, none⟩) hb _).setCell (p := ⟨b, 2, none⟩) hb _
theorem size_set3 {b : Nat} {w : World} {x0 x1 x2 : Value} : (((w.setCell ⟨b, 0, none⟩ x0).setCell ⟨b, 1, none⟩ x1).setCell ⟨b, 2, none⟩ x2).heap.size = w.heap.size := by simp [World.setCell]
theorem heap_set3 {b k : Nat} {w : World} {x0 x1 x2 : Value} (h : k ≠ b) : (((w.setCell ⟨b, 0, none⟩ x0).setCell ⟨b, 1, none⟩ x1).setCell ⟨b, 2, none⟩ x2).heap[k]? = w.heap[k]? := by
  rw [Below.heap_setCell _ _ _ _ h, Below.heap_setCell _ _ _ _ h, Below.heap_setCell _ _ _ _ h]
set_option maxHeartbeats 1600000 in
theorem gpCopy (w : World) (r s : Int) (v : Value) (es : List Ed) (h : ReadE w.heap.size w v es) (hl : es.length ≤ 1000000000) :
    Calls Try.prog 47 #[.agg #[.int .i64 r, .int .i64 s, v]] w (LwGraph w r s es) := by
  obtain ⟨a, cap, rfl, hnc⟩ := h.form
  obtain ⟨n, hn⟩ : ∃ n, n = es.length := ⟨_, rfl⟩
  rw [← hn] at h hnc
  obtain ⟨w1, hw1⟩ : ∃ w1, w1 = (w.alloc (.cells #[.int .i64 r, .int .i64 s, .slice a n cap] 32)).alloc (.cells #[.int .i64 0, .int .i64 0, .slice none 0 0] 32) := ⟨_, rfl⟩
  have hb1 : Below w.heap.size w w1 := by rw [hw1]; exact ((Below.refl _ _).alloc (Nat.le_refl _) _).alloc (by simp) _
  have hs1 : w1.heap.size = w.heap.size + 1 + 1 := by rw [hw1]; simp
  have hg := heap_box w (.cells #[.int .i64 r, .int .i64 s, .slice a n cap] 32) (.cells #[.int .i64 0, .int .i64 0, .slice none 0 0] 32)
  have hk := heap_alloc_new (w.alloc (.cells #[.int .i64 r, .int .i64 s, .slice a n cap] 32)) (.cells #[.int .i64 0, .int .i64 0, .slice none 0 0] 32)
  rw [← hw1] at hg hk
  rw [show (w.alloc (.cells #[.int .i64 r, .int .i64 s, .slice a n cap] 32)).heap.size = w.heap.size + 1 by simp] at hk
  have hrd1 := (h.below hb1).mono hb1.size
  rw [hn] at hrd1
  have hcl := gpClone w1 _ es hrd1 hl
  rw [← hn] at hcl ⊢
  replace hn := hidI hn
  replace h := hidI h
  replace hrd1 := hidI hrd1
  replace hs1 := hidI hs1
  replace hw1 := hidI hw1
  have g0 : w1.cell? ⟨w.heap.size, 0, none⟩ = some (.int .i64 r) := by simpa using cell_of_heap hg 0
  have g1 : w1.cell? ⟨w.heap.size, 1, none⟩ = some (.int .i64 s) := by simpa using cell_of_heap hg 1
  have g2 : w1.cell? ⟨w.heap.size, 2, none⟩ = some (.slice a n cap) := by simpa using cell_of_heap hg 2
  replace hg := hidI hg
  replace hk := hidI hk
  go_enter Try.func47, Try.ntmps47
  go_wp2_with fail
  rw [← hw1.out]
  refine hcl.mono ?_
  intro e w2 h2
  obtain ⟨b, cap2, rfl, hrow, hb2⟩ := h2
  rw [← hn.out]
  rw [← hn.out] at hrow
  have hk1 : w2.heap[w.heap.size]? = some (.cells #[.int .i64 r, .int .i64 s, .slice a n cap] 32 (0, 0)) := by rw [hb2.block _ (by have := hs1.out; omega)]; exact hg.out
  have hk2 : w2.heap[w.heap.size + 1]? = some (.cells #[.int .i64 0, .int .i64 0, .slice none 0 0] 32 (0, 0)) := by rw [hb2.block _ (by have := hs1.out; omega)]; exact hk.out
  obtain ⟨w3, hw3⟩ : ∃ w3, w3 = w2.setCell ⟨w.heap.size, 2, none⟩ (.slice b n cap2) := ⟨_, rfl⟩
  have q0 := cell_of_heap hk1 0
  have q1 := cell_of_heap hk1 1
  have q2 := cell_of_heap hk1 2
  have k0 := cell_of_heap hk2 0
  have k1 := cell_of_heap hk2 1
  have k2 := cell_of_heap hk2 2
  have f1 := fun j => frozen_of_row w2 w.heap.size j _ _ hk1
  have f2 := fun j => frozen_of_row w2 (w.heap.size + 1) j _ _ hk2
  simp at q0 q1 q2 k0 k1 k2
  have hbz := hb1.trans (hb2.mono hb1.size)
  have hfin : LwGraph w r s es (.returned (.agg #[.int .i64 r, .int .i64 s, .slice b n cap2])) ((((w2.setCell ⟨w.heap.size, 2, none⟩ (.slice b n cap2)).setCell ⟨w.heap.size + 1, 0, none⟩ (.int .i64 r)).setCell ⟨w.heap.size + 1, 1, none⟩ (.int .i64 s)).setCell ⟨w.heap.size + 1, 2, none⟩ (.slice b n cap2)) := by
    have hs := hs1.out
    refine ⟨b, cap2, by rw [hn.out], ?_, below_set3 (hbz.setCell (p := ⟨w.heap.size, 2, none⟩) (Nat.le_refl _) _) (by omega)⟩
    have hrow' : RowS 68 3 (w2.setCell ⟨w.heap.size, 2, none⟩ (.slice b n cap2)) w1.heap.size w2.heap.size (.slice b n cap2) n (flatE es) := hrow.keep (fun k h1 h2 => Below.heap_setCell _ _ _ _ (show k ≠ w.heap.size by omega))
    rw [← hn.out]
    exact RowS.wide (hrow'.set3_ (.inl (by omega))) (by omega) (by rw [size_set3]; simp [World.setCell])
  have hky : (w2.setCell ⟨w.heap.size, 2, none⟩ (.slice b n cap2)).heap[w.heap.size + 1]? = some (.cells #[.int .i64 0, .int .i64 0, .slice none 0 0] 32 (0, 0)) := by
    rw [Below.heap_setCell _ _ _ _ (show w.heap.size + 1 ≠ w.heap.size by omega)]; exact hk2
  replace hfin := hidI hfin
  replace hky := hidI hky
  replace hk1 := hidI hk1
  replace hk2 := hidI hk2
  replace hw3 := hidI hw3
  replace hrow := hidI hrow
  clear g0 g1 g2
  go_wp2
  (try simp only [Exit.inBlock, Exit.then])
  refine ret_cell rfl (g := w.heap.size + 1) rfl (set3 hky.out _ _ _) Try.underlying32 sizeGraph ?_
  exact hfin.out
end Go.Proofs.Ytdeofaimgldklaa
