/- Graphs, the program: AddVertex. -/
import Derived.Test.YtkmhncbakfnfeaaGP4
namespace Go.Proofs.Ytkmhncbakfnfeaa
open Go.RowKit
set_option linter.unusedVariables false
set_option linter.unusedSimpArgs false

set_option maxHeartbeats 1600000 in
theorem progAddV (w : World) (r s : Int) (v : Value) (es : List Ed) (h : ReadE w.heap.size w v es) (hl : es.length ≤ 1000000000) :
    Calls Try.prog 25 #[.agg #[.int .i64 r, .int .i64 s, v]] w (LwGraphBool w r (if addV r s es = true then s + 1 else s) es (addV r s es)) := by
  obtain ⟨a, cap, rfl, hnc⟩ := h.form
  obtain ⟨n, hn⟩ : ∃ n, n = es.length := ⟨_, rfl⟩
  rw [← hn] at h hnc
  obtain ⟨w1, hw1⟩ : ∃ w1, w1 = (w.alloc (.cells #[.int .i64 r, .int .i64 s, .slice a n cap] 30)).alloc (.cells #[.int .i64 0, .int .i64 0, .slice none 0 0] 30) := ⟨_, rfl⟩
  have hb1 : Below w.heap.size w w1 := by rw [hw1]; exact ((Below.refl _ _).alloc (Nat.le_refl _) _).alloc (by simp) _
  have hs1 : w1.heap.size = w.heap.size + 1 + 1 := by rw [hw1]; simp
  have hg := heap_box w (.cells #[.int .i64 r, .int .i64 s, .slice a n cap] 30) (.cells #[.int .i64 0, .int .i64 0, .slice none 0 0] 30)
  have hk := heap_alloc_new (w.alloc (.cells #[.int .i64 r, .int .i64 s, .slice a n cap] 30)) (.cells #[.int .i64 0, .int .i64 0, .slice none 0 0] 30)
  rw [← hw1] at hg hk
  rw [show (w.alloc (.cells #[.int .i64 r, .int .i64 s, .slice a n cap] 30)).heap.size = w.heap.size + 1 by simp] at hk
  have hrd1 := (h.below hb1).mono hb1.size
  rw [hn] at hrd1
  have hcp := gpCopy w1 r s _ es hrd1 hl
  rw [← hn] at hcp ⊢
  obtain ⟨B, hB⟩ : ∃ B, B = isGr r s es := ⟨_, rfl⟩
  obtain ⟨D, hD⟩ : ∃ D, D = addV r s es := ⟨_, rfl⟩
  obtain ⟨s2, hs2⟩ : ∃ s2, s2 = (if D = true then s + 1 else s) := ⟨_, rfl⟩
  rw [← hD, ← hs2]
  have hDB : D = (B && decide (s < 40)) := by rw [hD, hB]; rfl
  have hBs : B = true → 1 ≤ s ∧ s ≤ 40 := by intro hq; rw [hB] at hq; exact ⟨(isGr_iff.1 hq).2.2.2.1, (isGr_iff.1 hq).2.2.2.2.1⟩
  replace hD := hidI hD
  replace hs2 := hidI hs2
  replace hDB := hidI hDB
  replace hBs := hidI hBs
  replace hn := hidI hn
  replace h := hidI h
  replace hrd1 := hidI hrd1
  replace hs1 := hidI hs1
  replace hw1 := hidI hw1
  replace hB := hidI hB
  have g0 : w1.cell? ⟨w.heap.size, 0, none⟩ = some (.int .i64 r) := by simpa using cell_of_heap hg 0
  have g1 : w1.cell? ⟨w.heap.size, 1, none⟩ = some (.int .i64 s) := by simpa using cell_of_heap hg 1
  have g2 : w1.cell? ⟨w.heap.size, 2, none⟩ = some (.slice a n cap) := by simpa using cell_of_heap hg 2
  replace hg := hidI hg
  replace hk := hidI hk
  go_enter Try.func25, Try.ntmps25
  go_wp2_with fail
  rw [← hw1.out]
  refine hcp.mono ?_
  intro e w2 h2
  obtain ⟨b, cap2, rfl, hrow, hb2⟩ := h2.form
  rw [← hn.out]
  rw [← hn.out] at hrow
  clear h2 hcp
  have hk1 : w2.heap[w.heap.size]? = some (.cells #[.int .i64 r, .int .i64 s, .slice a n cap] 30 (0, 0)) := by rw [hb2.block _ (by have := hs1.out; omega)]; exact hg.out
  have hk2 : w2.heap[w.heap.size + 1]? = some (.cells #[.int .i64 0, .int .i64 0, .slice none 0 0] 30 (0, 0)) := by rw [hb2.block _ (by have := hs1.out; omega)]; exact hk.out
  obtain ⟨w3, hw3⟩ : ∃ w3, w3 = ((w2.setCell ⟨w.heap.size, 0, none⟩ (.int .i64 r)).setCell ⟨w.heap.size, 1, none⟩ (.int .i64 s)).setCell ⟨w.heap.size, 2, none⟩ (.slice b n cap2) := ⟨_, rfl⟩
  have hk13 : w3.heap[w.heap.size]? = some (.cells #[.int .i64 r, .int .i64 s, .slice b n cap2] 30 (0, 0)) := by rw [hw3]; exact set3 hk1 _ _ _
  have hk23 : w3.heap[w.heap.size + 1]? = some (.cells #[.int .i64 0, .int .i64 0, .slice none 0 0] 30 (0, 0)) := by rw [hw3, heap_set3 (by omega)]; exact hk2
  have hs3 : w3.heap.size = w2.heap.size := by rw [hw3]; exact size_set3
  have hbz : Below w.heap.size w w3 := by rw [hw3]; exact below_set3 (hb1.trans (hb2.mono hb1.size)) (Nat.le_refl _)
  have hrow3 : RowS 25 3 w3 w1.heap.size w2.heap.size (.slice b n cap2) n (flatE es) := by rw [hw3]; exact hrow.set3_ (.inl (by have := hs1.out; omega))
  have hs12 := hb2.size
  have q0 := cell_of_heap hk1 0
  have q1 := cell_of_heap hk1 1
  have q2 := cell_of_heap hk1 2
  have f1 := fun j => frozen_of_row w2 w.heap.size j _ _ hk1
  simp at q0 q1 q2
  have p0 : w3.cell? ⟨w.heap.size, 0, none⟩ = some (.int .i64 r) := by simpa using cell_of_heap hk13 0
  have p1 : w3.cell? ⟨w.heap.size, 1, none⟩ = some (.int .i64 s) := by simpa using cell_of_heap hk13 1
  have p2 : w3.cell? ⟨w.heap.size, 2, none⟩ = some (.slice b n cap2) := by simpa using cell_of_heap hk13 2
  have r0 := p0
  have r1 := p1
  have r2 := p2
  rw [hw3] at r0 r1 r2
  have hrd3 : ReadE w3.heap.size w3 (.slice b n cap2) es := by have := hrow3.read.mono (show w2.heap.size ≤ w3.heap.size by omega); rw [hn.out] at this; exact hn.out ▸ this
  have his := progIsGr w3 r s _ es hrd3 hl
  rw [← hB.out] at his
  replace hw3 := hidI hw3
  replace hk1 := hidI hk1
  replace hk2 := hidI hk2
  replace hk13 := hidI hk13
  replace hk23 := hidI hk23
  replace hrow := hidI hrow
  replace hrow3 := hidI hrow3
  replace hrd3 := hidI hrd3
  replace hs3 := hidI hs3
  clear g0 g1 g2
  go_wp2_with fail
  rw [← hw3.out]
  refine his.mono ?_
  rintro e w4 ⟨rfl, hb4⟩
  clear r0 r1 r2 his q0 q1 q2 f1
  have hk4 : w4.heap[w.heap.size]? = some (.cells #[.int .i64 r, .int .i64 s, .slice b n cap2] 30 (0, 0)) := by rw [hb4.block _ (by have := hs1.out; have := hs3.out; omega)]; exact hk13.out
  have hk5 : w4.heap[w.heap.size + 1]? = some (.cells #[.int .i64 0, .int .i64 0, .slice none 0 0] 30 (0, 0)) := by rw [hb4.block _ (by have := hs1.out; have := hs3.out; omega)]; exact hk23.out
  have x0 := cell_of_heap hk4 0
  have x1 := cell_of_heap hk4 1
  have x2 := cell_of_heap hk4 2
  have y0 := cell_of_heap hk5 0
  have y1 := cell_of_heap hk5 1
  have y2 := cell_of_heap hk5 2
  have f1 := fun j => frozen_of_row w4 w.heap.size j _ _ hk4
  have f2 := fun j => frozen_of_row w4 (w.heap.size + 1) j _ _ hk5
  simp at x0 x1 x2 y0 y1 y2
  clear p0 p1 p2
  have hbz4 := hbz.trans (hb4.mono (by have := hbz.size; omega))
  have hrow4 : RowS 25 3 w4 w1.heap.size w2.heap.size (.slice b n cap2) n (flatE es) := hrow3.out.below hb4 (by have := hs3.out; omega)
  have hsz4 : w2.heap.size ≤ w4.heap.size := by have := hs3.out; have := hb4.size; omega
  have hfin : ∀ (y : Int) (d : Bool) (w5 : World), w5.heap.size = w4.heap.size → (∀ k, k ≠ w.heap.size → w5.heap[k]? = w4.heap[k]?) → Below w.heap.size w w5 → LwGraphBool w r y es d (.returned (.tuple #[.agg #[.int .i64 r, .int .i64 y, .slice b n cap2], .bool d])) (((w5.setCell ⟨w.heap.size + 1, 0, none⟩ (.int .i64 r)).setCell ⟨w.heap.size + 1, 1, none⟩ (.int .i64 y)).setCell ⟨w.heap.size + 1, 2, none⟩ (.slice b n cap2)) := by
    intro y d w5 h5 hk5 hb5
    have hs := hs1.out
    refine ⟨b, cap2, by rw [hn.out], ?_, below_set3 hb5 (by omega)⟩
    have hr5 : RowS 25 3 w5 w1.heap.size w2.heap.size (.slice b n cap2) n (flatE es) := hrow4.keep (fun k h1 h2 => hk5 k (by omega))
    rw [← hn.out]
    exact RowS.wide (hr5.set3_ (.inl (by omega))) (by omega) (by rw [size_set3]; omega)
  replace hfin := hidI hfin
  replace hk4 := hidI hk4
  replace hk5 := hidI hk5
  replace hrow4 := hidI hrow4
  cases B with
  | false =>
    have hd : D = false := by rw [hDB.out]; rfl
    have hss : s2 = s := by rw [hs2.out, hd]; rfl
    subst hss hd
    go_wp2
    (try simp only [Exit.inBlock, Exit.then])
    refine ret_cell2 (x := .bool false) rfl rfl rfl (set3 hk5.out _ _ _) Try.underlying30 sizeGraph ?_
    exact hfin.out _ false w4 rfl (fun _ _ => rfl) hbz4
  | true =>
    obtain ⟨h40ge, h40le⟩ := hBs.out rfl
    by_cases h40 : s < 40
    case neg =>
      have hd : D = false := by rw [hDB.out]; simp [h40]
      have hss : s2 = s := by rw [hs2.out, hd]; rfl
      obtain rfl : s = 40 := by omega
      subst hss hd
      have t1 : ((40 : Int) == 40) = true := by simp
      go_wp2
      (try simp only [Exit.inBlock, Exit.then])
      refine ret_cell2 (x := .bool false) rfl rfl rfl (set3 hk5.out _ _ _) Try.underlying30 sizeGraph ?_
      exact hfin.out _ false w4 rfl (fun _ _ => rfl) hbz4
    have hd : D = true := by rw [hDB.out]; simp [h40]
    have hss : s2 = s + 1 := by rw [hs2.out, hd]; rfl
    subst hss hd
    have t1 : (s == 40) = false := by rw [beq_eq_false_iff_ne]; omega
    have hne : w.heap.size + 1 ≠ w.heap.size := by omega
    go_wp2
    (try simp only [Exit.inBlock, Exit.then])
    have hky5 : (w4.setCell ⟨w.heap.size, 1, none⟩ (.int .i64 (s + 1))).heap[w.heap.size + 1]? = some (.cells #[.int .i64 0, .int .i64 0, .slice none 0 0] 30 (0, 0)) := by
      rw [Below.heap_setCell _ _ _ _ hne]
      exact hk5.out
    refine ret_cell2 (x := .bool true) rfl rfl rfl (set3 hky5 _ _ _) Try.underlying30 sizeGraph ?_
    exact hfin.out (s + 1) true _ (by simp [World.setCell]) (fun k hk1 => Below.heap_setCell _ _ _ _ hk1) (hbz4.setCell (p := ⟨w.heap.size, 1, none⟩) (Nat.le_refl _) _)
end Go.Proofs.Ytkmhncbakfnfeaa
