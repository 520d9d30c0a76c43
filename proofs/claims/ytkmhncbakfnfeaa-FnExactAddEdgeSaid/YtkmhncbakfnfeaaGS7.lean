/- Graphs, the model: AddVertex. -/
import Derived.Test.YtkmhncbakfnfeaaGS6
namespace Go.Proofs.Ytkmhncbakfnfeaa
open Go.RowKit
set_option linter.unusedVariables false
set_option linter.unusedSimpArgs false

/-- Does AddVertex add? -/
def addV (r s : Int) (es : List Ed) : Bool := isGr r s es && decide (s < 40)
theorem LwGraph.form {w w' : World} {r s : Int} {es : List Ed} {e : Ending} (h : LwGraph w r s es e w') : ∃ a cap, e = .returned (.agg #[.int .i64 r, .int .i64 s, .slice a es.length cap]) ∧ RowS 25 3 w' w.heap.size w'.heap.size (.slice a es.length cap) es.length (flatE es) ∧ Below w.heap.size w w' := h
set_option maxHeartbeats 1600000 in
theorem specAddV (w : World) (r s : Int) (v : Value) (es : List Ed) (h : ReadE w.heap.size w v es) (hs : -9223372036854775808 ≤ s ∧ s ≤ 9223372036854775807) (hl : es.length ≤ 1000000000) :
    Calls Try.prog 24 #[.agg #[.int .i64 r, .int .i64 s, v]] w (LwGraphBool w r (if addV r s es = true then s + 1 else s) es (addV r s es)) := by
  obtain ⟨a, cap, rfl, hnc⟩ := h.form
  obtain ⟨n, hn⟩ : ∃ n, n = es.length := ⟨_, rfl⟩
  rw [← hn] at hnc ⊢
  rw [← hn] at h
  obtain ⟨w1, hw1⟩ : ∃ w1, w1 = (w.alloc (.cells #[.int .i64 r, .int .i64 s, .slice a n cap] 30)).alloc (.cells #[.int .i64 0, .int .i64 0, .slice none 0 0] 30) := ⟨_, rfl⟩
  have hb1 : Below w.heap.size w w1 := by rw [hw1]; exact ((Below.refl _ _).alloc (Nat.le_refl _) _).alloc (by simp) _
  have hs1 : w1.heap.size = w.heap.size + 1 + 1 := by rw [hw1]; simp
  have hg := heap_box w (.cells #[.int .i64 r, .int .i64 s, .slice a n cap] 30) (.cells #[.int .i64 0, .int .i64 0, .slice none 0 0] 30)
  have hk := heap_alloc_new (w.alloc (.cells #[.int .i64 r, .int .i64 s, .slice a n cap] 30)) (.cells #[.int .i64 0, .int .i64 0, .slice none 0 0] 30)
  rw [← hw1] at hg hk
  rw [show (w.alloc (.cells #[.int .i64 r, .int .i64 s, .slice a n cap] 30)).heap.size = w.heap.size + 1 by simp] at hk
  have g0 : w1.cell? ⟨w.heap.size, 0, none⟩ = some (.int .i64 r) := by simpa using cell_of_heap hg 0
  have g1 : w1.cell? ⟨w.heap.size, 1, none⟩ = some (.int .i64 s) := by simpa using cell_of_heap hg 1
  have g2 : w1.cell? ⟨w.heap.size, 2, none⟩ = some (.slice a n cap) := by simpa using cell_of_heap hg 2
  have hrd1 := (h.below hb1).mono hb1.size
  rw [hn] at hrd1
  have hcopy := specCopy w1 r s _ es hrd1 hl
  rw [← hn] at hcopy hrd1
  obtain ⟨B, hB⟩ : ∃ B, B = isGr r s es := ⟨_, rfl⟩
  obtain ⟨D, hD⟩ : ∃ D, D = addV r s es := ⟨_, rfl⟩
  obtain ⟨s2, hs2⟩ : ∃ s2, s2 = (if D = true then s + 1 else s) := ⟨_, rfl⟩
  rw [← hD, ← hs2]
  have hDB : D = (B && decide (s < 40)) := by rw [hD, hB]; rfl
  replace hD := hidI hD
  replace hs2 := hidI hs2
  replace hDB := hidI hDB
  replace hn := hidI hn
  replace hw1 := hidI hw1
  replace hg := hidI hg
  replace hk := hidI hk
  replace hrd1 := hidI hrd1
  replace h := hidI h
  replace hs1 := hidI hs1
  replace hB := hidI hB
  go_enter Try.func24, Try.ntmps24
  go_wp2_with fail
  rw [← hw1.out]
  refine hcopy.mono ?_
  intro e w2 h2
  obtain ⟨b, cap2, rfl, hrow, hb2⟩ := h2.form
  rw [← hn.out]
  have q0 := below_cell g0 hb2 (by have := hs1.out; omega)
  have q1 := below_cell g1 hb2 (by have := hs1.out; omega)
  have q2 := below_cell g2 hb2 (by have := hs1.out; omega)
  clear h2 hcopy
  obtain ⟨w3, hw3⟩ : ∃ w3, w3 = w2.alloc (.cells #[.int .i64 r, .int .i64 s, .slice b n cap2] 30) := ⟨_, rfl⟩
  have hb3 : Below w2.heap.size w2 w3 := by rw [hw3]; exact (Below.refl _ _).alloc (Nat.le_refl _) _
  have hk3 := heap_alloc_new w2 (.cells #[.int .i64 r, .int .i64 s, .slice b n cap2] 30)
  rw [← hw3] at hk3
  have hs12 := hb2.size
  have hs3 : w2.heap.size < w3.heap.size := by rw [hw3]; simp
  have p0 := below_cell q0 hb3 (by have := hs1.out; omega)
  have p1 := below_cell q1 hb3 (by have := hs1.out; omega)
  have p2 := below_cell q2 hb3 (by have := hs1.out; omega)
  have his := specIsGr w3 r s (.slice a n cap) es (by have := ((hrd1.out.below hb2).mono hb2.size).below hb3; rw [hn.out] at this; exact hn.out ▸ this.mono (by omega)) hs hl
  rw [← hB.out] at his
  have hkr : w3.heap[w.heap.size + 1]? = some (.cells #[.int .i64 0, .int .i64 0, .slice none 0 0] 30 (0, 0)) := by rw [hb3.block _ (by have := hs1.out; omega), hb2.block _ (by have := hs1.out; omega)]; exact hk.out
  have r0 := p0
  have r1 := p1
  have r2 := p2
  rw [hw3] at r0 r1 r2
  replace hw3 := hidI hw3
  replace hk3 := hidI hk3
  replace hkr := hidI hkr
  go_wp2_with fail
  rw [← hw3.out]
  refine his.mono ?_
  rintro e w4 ⟨rfl, hb4⟩
  clear r0 r1 r2 his
  have z0 := below_cell p0 hb4 (by have := hs1.out; omega)
  have z1 := below_cell p1 hb4 (by have := hs1.out; omega)
  have z2 := below_cell p2 hb4 (by have := hs1.out; omega)
  have hkx : w4.heap[w2.heap.size]? = some (.cells #[.int .i64 r, .int .i64 s, .slice b n cap2] 30 (0, 0)) := by rw [hb4.block _ hs3]; exact hk3.out
  have hky : w4.heap[w.heap.size + 1]? = some (.cells #[.int .i64 0, .int .i64 0, .slice none 0 0] 30 (0, 0)) := by rw [hb4.block _ (by have := hs1.out; omega)]; exact hkr.out
  have x0 := cell_of_heap hkx 0
  have x1 := cell_of_heap hkx 1
  have x2 := cell_of_heap hkx 2
  have y0 := cell_of_heap hky 0
  have y1 := cell_of_heap hky 1
  have y2 := cell_of_heap hky 2
  have f1 := fun j => frozen_of_row w4 (w.heap.size + 1) j _ _ hky
  have f2 := fun j => frozen_of_row w4 w2.heap.size j _ _ hkx
  simp at x0 x1 x2 y0 y1 y2
  have hne : w2.heap.size ≠ w.heap.size + 1 := by have := hs1.out; omega
  have hne2 : w2.heap.size ≠ w.heap.size := by have := hs1.out; omega
  have hne' := hne.symm
  have hne2' := hne2.symm
  replace hkx := hidI hkx
  replace hky := hidI hky
  have hbz := hb1.trans ((hb2.trans ((hb3.mono hs12).trans (hb4.mono (by omega)))).mono hb1.size)
  have hrow4 := hidI ((hrow.below hb3 (Nat.le_refl _)).below hb4 (Nat.le_of_lt hs3))
  have hsz4 : w2.heap.size < w4.heap.size := Nat.lt_of_lt_of_le hs3 hb4.size
  have hfin : ∀ (y : Int) (d : Bool) (w5 : World), w5.heap.size = w4.heap.size → (∀ k, k ≠ w.heap.size + 1 → k < w2.heap.size → w5.heap[k]? = w4.heap[k]?) → Below w.heap.size w w5 → LwGraphBool w r y es d (.returned (.tuple #[.agg #[.int .i64 r, .int .i64 y, .slice b n cap2], .bool d])) w5 := by
    intro y d w5 h5 hk5 hb5
    have hs := hs1.out
    refine ⟨b, cap2, by rw [hn.out], ?_, hb5⟩
    exact RowS.wide (RowS.keep hrow4.out (fun k h1 h2 => hk5 k (by omega) h2)) (by omega) (by omega)
  replace hfin := hidI hfin
  have hend : ∀ d, LwGraphBool w r s es d (.returned (.tuple #[.agg #[.int .i64 r, .int .i64 s, .slice b n cap2], .bool d])) (((w4.setCell ⟨w.heap.size + 1, 0, none⟩ (.int .i64 r)).setCell ⟨w.heap.size + 1, 1, none⟩ (.int .i64 s)).setCell ⟨w.heap.size + 1, 2, none⟩ (.slice b n cap2)) := by
    intro d
    refine hfin.out s d _ (by simp [World.setCell]) (fun k hk1 hk2 => ?_) ?_
    · rw [Below.heap_setCell _ _ _ _ hk1, Below.heap_setCell _ _ _ _ hk1, Below.heap_setCell _ _ _ _ hk1]
    · exact ((hbz.setCell (p := ⟨w.heap.size + 1, 0, none⟩) (by simp) _).setCell (p := ⟨w.heap.size + 1, 1, none⟩) (by simp) _).setCell (p := ⟨w.heap.size + 1, 2, none⟩) (by simp) _
  replace hend := hidI hend
  cases B with
  | false =>
    have hd : D = false := by rw [hDB.out]; rfl
    have hss : s2 = s := by rw [hs2.out, hd]; rfl
    subst hss hd
    go_wp2
    (try simp only [Exit.inBlock, Exit.then])
    refine ret_cell2 (x := .bool false) rfl rfl rfl (set3 hky.out _ _ _) Try.underlying30 sizeGraph ?_
    exact hend.out false
  | true =>
    by_cases h40 : s < 40
    case neg =>
      have hd : D = false := by rw [hDB.out]; simp [h40]
      have hss : s2 = s := by rw [hs2.out, hd]; rfl
      subst hss hd
      have h40' : 40 ≤ s2 := by omega
      go_wp2
      (try simp only [Exit.inBlock, Exit.then])
      refine ret_cell2 (x := .bool false) rfl rfl rfl (set3 hky.out _ _ _) Try.underlying30 sizeGraph ?_
      exact hend.out false
    have hd : D = true := by rw [hDB.out]; simp [h40]
    have hss : s2 = s + 1 := by rw [hs2.out, hd]; rfl
    subst hss hd
    have h40' : ¬ 40 ≤ s := by omega
    go_wp2
    (try simp only [Exit.inBlock, Exit.then])
    have hky5 : (w4.setCell ⟨w2.heap.size, 1, none⟩ (.int .i64 (s + 1))).heap[w.heap.size + 1]? = some (.cells #[.int .i64 0, .int .i64 0, .slice none 0 0] 30 (0, 0)) := by
      rw [Below.heap_setCell _ _ _ _ hne']
      exact hky.out
    refine ret_cell2 (x := .bool true) rfl rfl rfl (set3 hky5 _ _ _) Try.underlying30 sizeGraph ?_
    refine hfin.out (s + 1) true _ (by simp [World.setCell]) (fun k hk1 hk2 => ?_) ?_
    · rw [Below.heap_setCell _ _ _ _ hk1, Below.heap_setCell _ _ _ _ hk1, Below.heap_setCell _ _ _ _ hk1, Below.heap_setCell _ _ _ _ (Nat.ne_of_lt hk2)]
    · have := hs1.out
      exact (((hbz.setCell (p := ⟨w2.heap.size, 1, none⟩) (by simp; omega) _).setCell (p := ⟨w.heap.size + 1, 0, none⟩) (by simp) _).setCell (p := ⟨w.heap.size + 1, 1, none⟩) (by simp) _).setCell (p := ⟨w.heap.size + 1, 2, none⟩) (by simp) _
end Go.Proofs.Ytkmhncbakfnfeaa
