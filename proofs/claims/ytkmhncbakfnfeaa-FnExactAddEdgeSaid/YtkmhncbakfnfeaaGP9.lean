/- Graphs, the program: AddEdge. -/
import Derived.Test.YtkmhncbakfnfeaaGPA
import Derived.Test.YtkmhncbakfnfeaaGP8
namespace Go.Proofs.Ytkmhncbakfnfeaa
open Go.RowKit
set_option linter.unusedVariables false
set_option linter.unusedSimpArgs false

/-- Three slices of edges, the one in the middle built of one edge. -/
theorem readLE_three {B b4 b5 : Nat} {w3 w5 : World} {v1 v3 : Value} {f l t : Int} {es1 es3 : List Ed} (hb : Below B w3 w5) (h4 : w5.heap[b4]? = some (.cells #[.int .i64 f, .int .i64 l, .int .i64 t] 25 (0, 0))) (h5 : w5.heap[b5]? = some (.cells #[v1, .slice (some ⟨b4, 0, none⟩) 1 1, v3] 28 (0, 0)))
    (hlt : b4 < w5.heap.size ∧ b5 < w5.heap.size ∧ B ≤ w5.heap.size) (h1 : ReadE B w3 v1 es1) (h3 : ReadE B w3 v3 es3) : ReadLE w5.heap.size w5 (.slice (some ⟨b5, 0, none⟩) 3 3) [es1, [(f, l, t)], es3] := by
  refine ⟨by simp, _, 3, rfl, .inr ⟨b5, 0, rfl, hlt.2.1, fun i hi => ?_⟩⟩
  have hc := cell_of_heap h5 i
  have hi3 : i = 0 ∨ i = 1 ∨ i = 2 := by simp at hi; omega
  rcases hi3 with rfl | rfl | rfl
  · exact ⟨v1, by simpa using hc, (h1.below hb).mono hlt.2.2⟩
  · refine ⟨.slice (some ⟨b4, 0, none⟩) 1 1, by simpa using hc, ?_⟩
    refine ⟨by simp [flatE], by simp, _, 1, rfl, ⟨(fun h => by cases h), by simp⟩, .inr ⟨b4, 0, rfl, hlt.1, fun k hk => ?_⟩⟩
    have hd := cell_of_heap h4 k
    have hk3 : k = 0 ∨ k = 1 ∨ k = 2 := by simp at hk; omega
    rcases hk3 with rfl | rfl | rfl <;> simpa [flatE] using hd
  · exact ⟨v3, by simpa using hc, (h3.below hb).mono hlt.2.2⟩
theorem LwGraph.formg {w w' : World} {r s : Int} {es : List Ed} {e : Ending} (h : LwGraph w r s es e w') : ∃ a n cap, n = es.length ∧ e = .returned (.agg #[.int .i64 r, .int .i64 s, .slice a n cap]) ∧ RowS 25 3 w' w.heap.size w'.heap.size (.slice a n cap) es.length (flatE es) ∧ Below w.heap.size w w' := by
  obtain ⟨a, cap, he, hr, hb⟩ := h
  exact ⟨a, _, cap, rfl, he, hr, hb⟩
theorem readE_nil {B : Nat} {w : World} (ad : Addr) (cap : Nat) : ReadE B w (.slice (some ad) 0 cap) [] := ⟨by simp [flatE], by simp, some ad, cap, rfl, ⟨(fun h => by cases h), by simp⟩, .inl rfl⟩
set_option maxRecDepth 100000 in
set_option maxHeartbeats 12800000 in
theorem progAddE (w : World) (r s : Int) (v : Value) (es : List Ed) (f l t : Int) (h : ReadE w.heap.size w v es) (hl : es.length ≤ 100000000) :
    Calls Try.prog 23 #[.agg #[.int .i64 r, .int .i64 s, v], .agg #[.int .i64 f, .int .i64 l, .int .i64 t]] w (LwGraphBool w r s (addE r s es (f, l, t)) (addEb r s es (f, l, t))) := by
  obtain ⟨a, cap, rfl, hnc⟩ := h.form
  have hform := h
  obtain ⟨n, hn⟩ : ∃ n, n = es.length := ⟨_, rfl⟩
  rw [← hn] at h hnc
  obtain ⟨w1, hw1⟩ : ∃ w1, w1 = ((w.alloc (.cells #[.int .i64 r, .int .i64 s, .slice a n cap] 30)).alloc (.cells #[.int .i64 f, .int .i64 l, .int .i64 t] 25)).alloc (.cells #[.int .i64 0, .int .i64 0, .slice none 0 0] 30) := ⟨_, rfl⟩
  have hb1 : Below w.heap.size w w1 := by rw [hw1]; exact (((Below.refl _ _).alloc (Nat.le_refl _) _).alloc (by simp) _).alloc (by simp; omega) _
  have hs1 : w1.heap.size = w.heap.size + 3 := by rw [hw1]; simp
  have hg : w1.heap[w.heap.size]? = some (.cells #[.int .i64 r, .int .i64 s, .slice a n cap] 30 (0, 0)) := by
    rw [hw1, heap_alloc_old _ _ (by simp; omega)]
    exact heap_box w _ _
  have hk : w1.heap[w.heap.size + 1]? = some (.cells #[.int .i64 f, .int .i64 l, .int .i64 t] 25 (0, 0)) := by rw [hw1]; exact heap_mid _ _ _ _
  have hz : w1.heap[w.heap.size + 2]? = some (.cells #[.int .i64 0, .int .i64 0, .slice none 0 0] 30 (0, 0)) := by
    have := heap_alloc_new ((w.alloc (.cells #[.int .i64 r, .int .i64 s, .slice a n cap] 30)).alloc (.cells #[.int .i64 f, .int .i64 l, .int .i64 t] 25)) (.cells #[.int .i64 0, .int .i64 0, .slice none 0 0] 30)
    rw [← hw1] at this
    simpa using this
  have g0 := cell_of_heap hg 0
  have g1 := cell_of_heap hg 1
  have g2 := cell_of_heap hg 2
  have g3 := cell_of_heap hk 0
  have g4 := cell_of_heap hk 1
  have g5 := cell_of_heap hk 2
  simp at g0 g1 g2 g3 g4 g5
  have hsc := gpSearch w1 (.slice a es.length cap) es f l t ((hform.below hb1).mono hb1.size) (by omega)
  rw [← hn] at hsc ⊢
  obtain ⟨F, hF⟩ : ∃ F, F = addE r s es (f, l, t) := ⟨_, rfl⟩
  obtain ⟨Bv, hBv⟩ : ∃ Bv, Bv = addEb r s es (f, l, t) := ⟨_, rfl⟩
  rw [← hF, ← hBv]
  replace hF := hidI hF
  replace hBv := hidI hBv
  replace hn := hidI hn
  replace hw1 := hidI hw1
  replace h := hidI h
  replace hform := hidI hform
  replace hg := hidI hg
  replace hk := hidI hk
  replace hz := hidI hz
  replace hs1 := hidI hs1
  go_enter Try.func23, Try.ntmps23
  go_wp2_with fail
  rw [← hw1.out]
  refine hsc.mono ?_
  rintro e w2 ⟨p, found, rfl, hpl, hb2⟩
  clear hsc
  have hpn : p ≤ n := by rw [hn.out]; exact hpl.1
  have hs2 : w1.heap.size ≤ w2.heap.size := hb2.size
  have p0 := below_cell g0 hb2 (by have := hs1.out; omega)
  have p1 := below_cell g1 hb2 (by have := hs1.out; omega)
  have p2 := below_cell g2 hb2 (by have := hs1.out; omega)
  have p3 := below_cell g3 hb2 (by have := hs1.out; omega)
  have p4 := below_cell g4 hb2 (by have := hs1.out; omega)
  have p5 := below_cell g5 hb2 (by have := hs1.out; omega)
  clear g0 g1 g2 g3 g4 g5
  replace hs2 := hidI hs2
  replace hpl := hidI hpl
  replace hb2 := hidI hb2
  obtain ⟨w3, hw3⟩ : ∃ w3, w3 = w2.alloc (.cells #[.int .i64 r, .int .i64 s, .slice a n cap] 30) := ⟨_, rfl⟩
  have hb3 : Below w2.heap.size w2 w3 := by rw [hw3]; exact (Below.refl _ _).alloc (Nat.le_refl _) _
  have hh3 := heap_alloc_new w2 (.cells #[.int .i64 r, .int .i64 s, .slice a n cap] 30)
  rw [← hw3] at hh3
  have hs3 : w3.heap.size = w2.heap.size + 1 := by rw [hw3]; simp
  have x0 := below_cell p0 hb3 (by have := hs1.out; have := hs2.out; omega)
  have x1 := below_cell p1 hb3 (by have := hs1.out; have := hs2.out; omega)
  have x2 := below_cell p2 hb3 (by have := hs1.out; have := hs2.out; omega)
  have x3 := below_cell p3 hb3 (by have := hs1.out; have := hs2.out; omega)
  have x4 := below_cell p4 hb3 (by have := hs1.out; have := hs2.out; omega)
  have x5 := below_cell p5 hb3 (by have := hs1.out; have := hs2.out; omega)
  have hb13 : Below w.heap.size w w3 := hb1.trans ((hb2.out.trans (hb3.mono hs2.out)).mono hb1.size)
  have hread3 : ReadE w3.heap.size w3 (.slice a n cap) es := by
    have := (hform.out.below hb13).mono hb13.size
    rw [hn.out]; exact this
  have hr1 : ReadE w3.heap.size w3 (.slice a p cap) (es.take p) := hread3.first hpl.out.1
  have hflat : ([es.take p, [(f, l, t)], es.drop p] : List (List Ed)).flatten = es.take p ++ (f, l, t) :: es.drop p := by simp
  have hpc : p ≤ cap := by omega
  have hpci : (p : Int) ≤ (cap : Int) := by omega
  have hpni : (p : Int) ≤ (n : Int) := by omega
  replace hw3 := hidI hw3
  replace hh3 := hidI hh3
  replace hb3 := hidI hb3
  replace hs3 := hidI hs3
  replace hr1 := hidI hr1
  have hcase : (a = none ∧ n = 0 ∧ cap = 0 ∧ p = 0) ∨ (∃ ad, a = some ad ∧ n = 0 ∧ cap = 0 ∧ p = 0) ∨ (∃ ad, a = some ad ∧ n = 0 ∧ 0 < cap ∧ p = 0) ∨ (∃ b off, a = some ⟨b, off, none⟩ ∧ 0 < n ∧ p = cap) ∨ (∃ b off, a = some ⟨b, off, none⟩ ∧ 0 < n ∧ p < cap) := by
    obtain ⟨_, _, a', cap', hv, ⟨hnil, hc⟩, hor⟩ := hread3
    simp only [Value.slice.injEq] at hv
    obtain ⟨rfl, hnn, rfl⟩ := hv
    rcases a with _ | ad
    · have := hnil rfl
      exact .inl ⟨rfl, by omega, by omega, by omega⟩
    · rcases hor with h0 | ⟨b, off, ha, _⟩
      · rcases Nat.eq_zero_or_pos cap with hc0 | hc0
        · exact .inr (.inl ⟨ad, rfl, by omega, hc0, by omega⟩)
        · exact .inr (.inr (.inl ⟨ad, rfl, by omega, hc0, by omega⟩))
      · cases ha
        by_cases hn0 : 0 < n
        · by_cases hpc2 : p = cap
          · exact .inr (.inr (.inr (.inl ⟨b, off, rfl, hn0, hpc2⟩)))
          · exact .inr (.inr (.inr (.inr ⟨b, off, rfl, hn0, by omega⟩)))
        · rcases Nat.eq_zero_or_pos cap with hc0 | hc0
          · exact .inr (.inl ⟨_, rfl, by omega, hc0, by omega⟩)
          · exact .inr (.inr (.inl ⟨_, rfl, by omega, hc0, by omega⟩))
  have hLF := place_add (r := r) (s := s) hpl.out
  obtain ⟨L, hL⟩ : ∃ L, L = es.take p ++ (f, l, t) :: es.drop p := ⟨_, rfl⟩
  have hLl : L.length = n + 1 := by rw [hL, hn.out]; have := hpl.out.1; simp; omega
  rw [← hL, ← hF.out, ← hBv.out] at hLF
  rw [← hL] at hflat
  replace hL := hidI hL
  replace hLF := hidI hLF
  replace hLl := hidI hLl
  replace hflat := hidI hflat
  rcases hcase with ⟨rfl, rfl, rfl, rfl⟩ | ⟨ad, rfl, rfl, rfl, rfl⟩ | ⟨ad, rfl, rfl, hcap0, rfl⟩ | ⟨b, off, rfl, hn0, hpc0⟩ | ⟨b, off, rfl, hn0, hpc0⟩
  · have hr3 : Hid (ReadE w3.heap.size w3 (.slice none 0 0) (es.drop 0)) := hidI (by rw [List.drop_zero]; exact hread3)
    replace hread3 := hidI hread3
    have hb4' : Below w3.heap.size w3 (w3.alloc (.cells #[.int .i64 f, .int .i64 l, .int .i64 t] 25)) := (Below.refl _ _).alloc (Nat.le_refl _) _
    obtain ⟨w4, hw4⟩ : ∃ w4, w4 = (w3.alloc (.cells #[.int .i64 f, .int .i64 l, .int .i64 t] 25)).drew := ⟨_, rfl⟩
    have hb4 : Below w3.heap.size w3 w4 := by rw [hw4]; exact below_dn hb4' 1
    have hs4 : w4.heap.size = w3.heap.size + 1 := by rw [hw4]; show (w3.alloc _).heap.size = _; simp
    have hh4' : w4.heap[w3.heap.size]? = some (.cells #[.int .i64 f, .int .i64 l, .int .i64 t] 25 (0, 0)) := by rw [hw4]; exact heap_alloc_new w3 _
    obtain ⟨w5, hw5⟩ : ∃ w5, w5 = w4.alloc (.cells #[.slice none 0 0, .slice (some ⟨w3.heap.size, 0, none⟩) 1 1, .slice none 0 0] 28) := ⟨_, rfl⟩
    have hb45 : Below w4.heap.size w4 w5 := by rw [hw5]; exact (Below.refl _ _).alloc (Nat.le_refl _) _
    have hs5 : w5.heap.size = w4.heap.size + 1 := by rw [hw5]; simp
    have hh5 : w5.heap[w4.heap.size]? = some (.cells #[.slice none 0 0, .slice (some ⟨w3.heap.size, 0, none⟩) 1 1, .slice none 0 0] 28 (0, 0)) := by rw [hw5]; exact heap_alloc_new w4 _
    have hh4 : w5.heap[w3.heap.size]? = some (.cells #[.int .i64 f, .int .i64 l, .int .i64 t] 25 (0, 0)) := by rw [hb45.block _ (by omega)]; exact hh4'
    have hb35 := hb4.trans (hb45.mono hb4.size)
    have hlt45 : w3.heap.size < w5.heap.size ∧ w4.heap.size < w5.heap.size ∧ w3.heap.size ≤ w5.heap.size := by omega
    have hq : w2.heap.size < w3.heap.size ∧ w.heap.size + 2 < w3.heap.size := by have := hs1.out; have := hs2.out; have := hs3.out; omega
    have u2 := below_cell x2 hb4 (by omega)
    have u3 := below_cell x3 hb4 (by omega)
    have u4 := below_cell x4 hb4 (by omega)
    have u5 := below_cell x5 hb4 (by omega)
    have s2 := below_cell x2 hb35 (by omega)
    have s3 := below_cell x3 hb35 (by omega)
    have s4 := below_cell x4 hb35 (by omega)
    have s5 := below_cell x5 hb35 (by omega)
    replace hb4 := hidI hb4
    replace hb45 := hidI hb45
    replace hb35 := hidI hb35
    replace hh4 := hidI hh4
    replace hh5 := hidI hh5
    replace hlt45 := hidI hlt45
    replace hw4 := hidI hw4
    replace hw5 := hidI hw5
    replace hs4 := hidI hs4
    replace hs5 := hidI hs5
    replace hq := hidI hq
    clear hh4' hb4'
    go_wp2
    rw [← hw3.out]
    refine hideQ (fun _ _ d _ _ h => by cases d <;> exact h) (fun Q' hnorm hpan => ?_)
    refine wp_region_held_drew (S := (fun z => z.cell? ⟨w.heap.size, 2, none⟩ = some (.slice none 0 0) ∧ z.cell? ⟨w.heap.size + 1, 0, none⟩ = some (.int .i64 f) ∧ z.cell? ⟨w.heap.size + 1, 1, none⟩ = some (.int .i64 l) ∧ z.cell? ⟨w.heap.size + 1, 2, none⟩ = some (.int .i64 t))) (by kernel_rfl) ?_ (fun hHeld => ?_)
    · try dsimp only
      ((repeat' apply And.intro) <;> assumption)
    refine take_at 0 17 (v := ?_) rfl (by kernel_rfl) (by kernel_rfl) (by kernel_rfl) (by kernel_rfl) hpan (Or.inl ⟨by rfl, ?_⟩) (by assumption) ?_
    rotate_left
    · intro w hSw; (try dsimp only at hSw); go_simp; with_reducible rfl
    simp only [Act.put, List.setIfInBounds_toArray, List.set_cons_zero, List.set_cons_succ]
    refine take_at 1 18 (v := ?_) rfl (by kernel_rfl) (by kernel_rfl) (by kernel_rfl) (by kernel_rfl) hpan (Or.inl ⟨by rfl, ?_⟩) (by assumption) ?_
    rotate_left
    · intro w hSw; (try dsimp only at hSw); go_simp; with_reducible rfl
    simp only [Act.put, List.setIfInBounds_toArray, List.set_cons_zero, List.set_cons_succ]
    refine take_at 2 19 (v := ?_) rfl (by kernel_rfl) (by kernel_rfl) (by kernel_rfl) (by kernel_rfl) hpan (Or.inl ⟨by rfl, ?_⟩) (by assumption) ?_
    rotate_left
    · intro w hSw; (try dsimp only at hSw); go_simp; with_reducible rfl
    simp only [Act.put, List.setIfInBounds_toArray, List.set_cons_zero, List.set_cons_succ]
    refine take_at 3 20 (v := ?_) rfl (by kernel_rfl) (by kernel_rfl) (by kernel_rfl) (by kernel_rfl) hpan (Or.inl ⟨by rfl, ?_⟩) (by assumption) ?_
    rotate_left
    · intro w hSw; (try dsimp only at hSw); go_simp; with_reducible rfl
    simp only [Act.put, List.setIfInBounds_toArray, List.set_cons_zero, List.set_cons_succ]
    refine take_at 4 21 (v := ?_) rfl (by kernel_rfl) (by kernel_rfl) (by kernel_rfl) (by kernel_rfl) hpan (Or.inl ⟨by rfl, ?_⟩) (by assumption) ?_
    rotate_left
    · intro w hSw; (try dsimp only at hSw); go_simp; with_reducible rfl
    simp only [Act.put, List.setIfInBounds_toArray, List.set_cons_zero, List.set_cons_succ]
    refine take_at 6 23 (v := ?_) rfl (by kernel_rfl) (by kernel_rfl) (by kernel_rfl) (by kernel_rfl) hpan (Or.inl ⟨by rfl, ?_⟩) (by assumption) ?_
    rotate_left
    · intro w hSw; (try dsimp only at hSw); go_simp; with_reducible rfl
    simp only [Act.put, List.setIfInBounds_toArray, List.set_cons_zero, List.set_cons_succ]
    refine take_at 7 24 (v := ?_) rfl (by kernel_rfl) (by kernel_rfl) (by kernel_rfl) (by kernel_rfl) hpan (Or.inl ⟨by rfl, ?_⟩) (by assumption) ?_
    rotate_left
    · intro w hSw; (try dsimp only at hSw); go_simp; with_reducible rfl
    simp only [Act.put, List.setIfInBounds_toArray, List.set_cons_zero, List.set_cons_succ]
    refine take_at 8 25 (v := ?_) rfl (by kernel_rfl) (by kernel_rfl) (by kernel_rfl) (by kernel_rfl) hpan (Or.inl ⟨by rfl, ?_⟩) (by assumption) ?_
    rotate_left
    · intro w hSw; (try dsimp only at hSw); go_simp; with_reducible rfl
    simp only [Act.put, List.setIfInBounds_toArray, List.set_cons_zero, List.set_cons_succ]
    refine take_at 9 26 (v := ?_) rfl (by kernel_rfl) (by kernel_rfl) (by kernel_rfl) (by kernel_rfl) hpan (Or.inl ⟨by rfl, ?_⟩) (by assumption) ?_
    rotate_left
    · intro w hSw; (try dsimp only at hSw); go_simp; with_reducible rfl
    simp only [Act.put, List.setIfInBounds_toArray, List.set_cons_zero, List.set_cons_succ]
    refine wpAnyH_ready (rs := [5]) (by kernel_rfl) (by simp) ?_
    refine AllReadyH.cons rfl (fun K hK => ?_) AllReadyH.nil
    rw [if_pos (by rfl)]
    go_simp
    rw [← hw4.out]
    refine hK.out _ _ ?_ (fun hHeld => ?_)
    · try dsimp only
      ((repeat' apply And.intro) <;> assumption)
    clear hK
    try simp only [Act.put, List.setIfInBounds_toArray, List.set_cons_zero, List.set_cons_succ]
    refine wpAnyH_ready (rs := [10]) (by kernel_rfl) (by simp) ?_
    refine AllReadyH.cons rfl (fun K hK => ?_) AllReadyH.nil
    rw [if_pos (by rfl)]
    go_simp
    rw [← hw5.out]
    refine hK.out _ _ ?_ (fun hHeld => ?_)
    · try dsimp only
      ((repeat' apply And.intro) <;> assumption)
    clear hK
    try simp only [Act.put, List.setIfInBounds_toArray, List.set_cons_zero, List.set_cons_succ]
    refine wpAnyH_ready (rs := [11]) (by kernel_rfl) (by simp) ?_
    refine AllReadyH.cons rfl (fun K hK => ?_) AllReadyH.nil
    rw [if_pos (by rfl)]
    go_simp
    refine (gpConcat w5 _ [es.take 0, [(f, l, t)], es.drop 0] (readLE_three hb35.out hh4.out hh5.out hlt45.out hr1.out hr3.out) (by rw [hflat.out, hLl.out]; have := hn.out; omega)).mono ?_
    rw [hflat.out]
    intro e w6 h6
    obtain ⟨a6, n6, cap6, hn6, rfl, hrow6, hb6⟩ := h6.form
    have hb36 := hb35.out.trans (hb6.mono hb35.out.size)
    have y2 := below_cell x2 hb36 (by have := hs1.out; have := hs2.out; have := hs3.out; omega)
    have y3 := below_cell x3 hb36 (by have := hs1.out; have := hs2.out; have := hs3.out; omega)
    have y4 := below_cell x4 hb36 (by have := hs1.out; have := hs2.out; have := hs3.out; omega)
    have y5 := below_cell x5 hb36 (by have := hs1.out; have := hs2.out; have := hs3.out; omega)
    have hkl : w6.heap[w2.heap.size]? = some (.cells #[.int .i64 r, .int .i64 s, .slice none 0 0] 30 (0, 0)) := by rw [hb36.block _ (by have := hs3.out; omega)]; exact hh3.out
    have z0 := cell_of_heap hkl 0
    have z1 := cell_of_heap hkl 1
    have z2 := cell_of_heap hkl 2
    have fz := fun j => frozen_of_row w6 w2.heap.size j _ _ hkl
    simp at z0 z1 z2
    obtain ⟨w7, hw7⟩ : ∃ w7, w7 = w6.setCell ⟨w2.heap.size, 2, none⟩ (.slice a6 n6 cap6) := ⟨_, rfl⟩
    have hne2 : w.heap.size ≠ w2.heap.size := by have := hs1.out; have := hs2.out; omega
    have hne3 : w.heap.size + 1 ≠ w2.heap.size := by have := hs1.out; have := hs2.out; omega
    have t2 : w7.cell? ⟨w.heap.size, 2, none⟩ = some (.slice none 0 0) := by rw [hw7, World.cell?_of_block (Below.heap_setCell _ _ _ _ hne2)]; exact y2
    have t3 : w7.cell? ⟨w.heap.size + 1, 0, none⟩ = some (.int .i64 f) := by rw [hw7, World.cell?_of_block (Below.heap_setCell _ _ _ _ hne3)]; exact y3
    have t4 : w7.cell? ⟨w.heap.size + 1, 1, none⟩ = some (.int .i64 l) := by rw [hw7, World.cell?_of_block (Below.heap_setCell _ _ _ _ hne3)]; exact y4
    have t5 : w7.cell? ⟨w.heap.size + 1, 2, none⟩ = some (.int .i64 t) := by rw [hw7, World.cell?_of_block (Below.heap_setCell _ _ _ _ hne3)]; exact y5
    replace hw7 := hidI hw7
    replace hn6 := hidI hn6
    replace hrow6 := hidI hrow6
    replace hb36 := hidI hb36
    replace hb6 := hidI hb6
    replace hkl := hidI hkl
    clear h6
    refine hK.out _ _ ?_ (fun hHeld => ?_)
    · try dsimp only
      ((repeat' apply And.intro) <;> assumption)
    clear hK
    try simp only [Act.put, List.setIfInBounds_toArray, List.set_cons_zero, List.set_cons_succ]
    refine take_at 12 29 (v := ?_) rfl (by kernel_rfl) (by kernel_rfl) (by kernel_rfl) (by kernel_rfl) hpan (Or.inl ⟨by rfl, ?_⟩) (by assumption) ?_
    rotate_left
    · intro w hSw; (try dsimp only at hSw); go_simp; with_reducible rfl
    simp only [Act.put, List.setIfInBounds_toArray, List.set_cons_zero, List.set_cons_succ]
    refine wpAnyH_ready (rs := [13]) (by kernel_rfl) (by simp) ?_
    refine AllReadyH.cons rfl (fun K hK => ?_) AllReadyH.nil
    rw [if_pos (by rfl)]
    go_simp
    rw [← hw7.out]
    refine hK.out _ _ ?_ (fun hHeld => ?_)
    · try dsimp only
      ((repeat' apply And.intro) <;> assumption)
    clear hK
    try simp only [Act.put, List.setIfInBounds_toArray, List.set_cons_zero, List.set_cons_succ]
    refine wpAnyH_done (by kernel_rfl) ?_ _
    refine hnorm _ _ ?_
    clear hnorm hpan
    repeat clear hHeld
    try simp only [Exit.then]
    clear s2 s3 s4 s5 u2 u3 u4 u5 y2 y3 y4 y5 z0 z1 z2 fz t2 t3 t4 t5
    have hsz6 := hb36.out.size
    have hh7 : w7.heap[w2.heap.size]? = some (.cells #[.int .i64 r, .int .i64 s, .slice a6 n6 cap6] 30 (0, 0)) := by
      rw [hw7.out]
      have := heap_setCell_same w6 w2.heap.size 2 _ 30 (.slice a6 n6 cap6) hkl.out
      simpa using this
    have hold : ∀ k, k ≠ w2.heap.size → w7.heap[k]? = w6.heap[k]? := fun k hk => by rw [hw7.out]; exact Below.heap_setCell _ _ _ _ hk
    have hs7 : w7.heap.size = w6.heap.size := by rw [hw7.out]; simp [World.setCell]
    have hb7 : Below w.heap.size w w7 := by
      rw [hw7.out]
      exact (hb13.trans (hb36.out.mono hb13.size)).setCell (p := ⟨w2.heap.size, 2, none⟩) (by have := hs1.out; have := hs2.out; show w.heap.size ≤ w2.heap.size; omega) _
    have hrow7 : RowS 25 3 w7 w5.heap.size w6.heap.size (.slice a6 n6 cap6) L.length (flatE L) := hrow6.out.keep (fun k h1 h2 => hold k (by have := hlt45.out; have := hq.out; omega))
    have hread7 : ReadE w7.heap.size w7 (.slice a6 n6 cap6) L := hrow7.read.mono (by omega)
    have hgz : w7.heap[w.heap.size + 2]? = some (.cells #[.int .i64 0, .int .i64 0, .slice none 0 0] 30 (0, 0)) := by
      have := hs1.out
      have := hs2.out
      have := hq.out
      rw [hold _ (by omega), hb36.out.block _ (by omega), hb3.out.block _ (by omega), hb2.out.block _ (by omega)]
      exact hz.out
    have hgg : w7.heap[w.heap.size]? = some (.cells #[.int .i64 r, .int .i64 s, .slice none 0 0] 30 (0, 0)) := by
      have := hs1.out
      have := hs2.out
      have := hq.out
      rw [hold _ (by omega), hb36.out.block _ (by omega), hb3.out.block _ (by omega), hb2.out.block _ (by omega)]
      exact hg.out
    have k0 := cell_of_heap hh7 0
    have k1 := cell_of_heap hh7 1
    have k2 := cell_of_heap hh7 2
    simp at k0 k1 k2
    have hig := progIsGr w7 r s _ L hread7 (by rw [hLl.out]; have := hn.out; omega)
    rw [hLF.out.1] at hig
    clear hrow6
    replace hh7 := hidI hh7
    replace hold := hidI hold
    replace hs7 := hidI hs7
    replace hgz := hidI hgz
    replace hgg := hidI hgg
    replace hrow7 := hidI hrow7
    replace hread7 := hidI hread7
    replace hsz6 := hidI hsz6
    go_wp2_with fail
    refine hig.mono ?_
    rintro e w8 ⟨rfl, hb8⟩
    clear hig k0 k1 k2
    have hs78 := hb8.size
    have hh8 : w8.heap[w2.heap.size]? = some (.cells #[.int .i64 r, .int .i64 s, .slice a6 n6 cap6] 30 (0, 0)) := by rw [hb8.block _ (by have := hs7.out; have := hsz6.out; have := hq.out; omega)]; exact hh7.out
    have hz8 : w8.heap[w.heap.size + 2]? = some (.cells #[.int .i64 0, .int .i64 0, .slice none 0 0] 30 (0, 0)) := by rw [hb8.block _ (by have := hs7.out; have := hsz6.out; have := hq.out; omega)]; exact hgz.out
    have hg8 : w8.heap[w.heap.size]? = some (.cells #[.int .i64 r, .int .i64 s, .slice none 0 0] 30 (0, 0)) := by rw [hb8.block _ (by have := hs7.out; have := hsz6.out; have := hq.out; omega)]; exact hgg.out
    have hb08 : Below w.heap.size w w8 := hb7.trans (hb8.mono hb7.size)
    cases Bv with
    | true =>
      have hFL : F = L := hLF.out.2.1 rfl
      have j0 := cell_of_heap hh8 0
      have j1 := cell_of_heap hh8 1
      have j2 := cell_of_heap hh8 2
      have y0 := cell_of_heap hz8 0
      have y1 := cell_of_heap hz8 1
      have y2 := cell_of_heap hz8 2
      have f2 := fun j => frozen_of_row w8 (w.heap.size + 2) j _ _ hz8
      simp at j0 j1 j2 y0 y1 y2
      have hne : w.heap.size + 2 ≠ w2.heap.size := by have := hs1.out; have := hs2.out; omega
      have hrow8 : RowS 25 3 w8 w5.heap.size w6.heap.size (.slice a6 n6 cap6) L.length (flatE L) := hrow7.out.below hb8 (by have := hs7.out; omega)
      have hfin : LwGraphBool w r s F true (.returned (.tuple #[.agg #[.int .i64 r, .int .i64 s, .slice a6 n6 cap6], .bool true])) (((w8.setCell ⟨w.heap.size + 2, 0, none⟩ (.int .i64 r)).setCell ⟨w.heap.size + 2, 1, none⟩ (.int .i64 s)).setCell ⟨w.heap.size + 2, 2, none⟩ (.slice a6 n6 cap6)) := by
        have := hq.out
        have := hlt45.out
        have := hs7.out
        have hn6' := hn6.out
        subst hn6'
        refine ⟨a6, cap6, by rw [hFL], ?_, below_set3 hb08 (by omega)⟩
        rw [hFL]
        exact RowS.wide (hrow8.set3_ (.inl (by omega))) (by omega) (by rw [size_set3]; omega)
      replace hfin := hidI hfin
      replace hh8 := hidI hh8
      replace hz8 := hidI hz8
      replace hg8 := hidI hg8
      replace hrow8 := hidI hrow8
      replace hFL := hidI hFL
      go_wp2
      (try simp only [Exit.inBlock, Exit.then])
      refine ret_cell2 (x := .bool true) rfl rfl rfl (set3 hz8.out _ _ _) Try.underlying30 sizeGraph ?_
      exact hfin.out
    | false =>
      have hFL : F = es := hLF.out.2.2 rfl
      have j0 := cell_of_heap hg8 0
      have j1 := cell_of_heap hg8 1
      have j2 := cell_of_heap hg8 2
      simp at j0 j1 j2
      have hrd8 : ReadE w8.heap.size w8 (.slice none es.length 0) es := (hform.out.below hb08).mono hb08.size
      have hcp := gpCopy w8 r s _ es hrd8 (by omega)
      rw [← hn.out] at hcp
      replace hh8 := hidI hh8
      replace hz8 := hidI hz8
      replace hg8 := hidI hg8
      replace hrd8 := hidI hrd8
      go_wp2_with fail
      refine hcp.mono ?_
      intro e w9 h9
      obtain ⟨a9, n9, cap9, hn9, rfl, hrow9, hb9⟩ := h9.formg
      have hz9 : w9.heap[w.heap.size + 2]? = some (.cells #[.int .i64 0, .int .i64 0, .slice none 0 0] 30 (0, 0)) := by rw [hb9.block _ (by have := hs7.out; have := hsz6.out; have := hq.out; omega)]; exact hz8.out
      have y0 := cell_of_heap hz9 0
      have y1 := cell_of_heap hz9 1
      have y2 := cell_of_heap hz9 2
      have f2 := fun j => frozen_of_row w9 (w.heap.size + 2) j _ _ hz9
      simp at y0 y1 y2
      have hb09 := hb08.trans (hb9.mono hb08.size)
      have hfin : LwGraphBool w r s F false (.returned (.tuple #[.agg #[.int .i64 r, .int .i64 s, .slice a9 n9 cap9], .bool false])) (((w9.setCell ⟨w.heap.size + 2, 0, none⟩ (.int .i64 r)).setCell ⟨w.heap.size + 2, 1, none⟩ (.int .i64 s)).setCell ⟨w.heap.size + 2, 2, none⟩ (.slice a9 n9 cap9)) := by
        have := hq.out
        have := hlt45.out
        have := hs7.out
        have := hsz6.out
        have hs9 := hb9.size
        subst hn9
        refine ⟨a9, cap9, by rw [hFL], ?_, below_set3 hb09 (by omega)⟩
        rw [hFL]
        exact RowS.wide (hrow9.set3_ (.inl (by omega))) (by omega) (by rw [size_set3]; omega)
      replace hfin := hidI hfin
      replace hz9 := hidI hz9
      replace hrow9 := hidI hrow9
      replace hFL := hidI hFL
      replace hn9 := hidI hn9
      clear h9 hcp j0 j1 j2
      go_wp2
      (try simp only [Exit.inBlock, Exit.then])
      refine ret_cell2 (x := .bool false) rfl rfl rfl (set3 hz9.out _ _ _) Try.underlying30 sizeGraph ?_
      exact hfin.out
  · have hr3 : Hid (ReadE w3.heap.size w3 (.slice (some ad) 0 0) (es.drop 0)) := hidI (by rw [List.drop_zero, List.eq_nil_of_length_eq_zero hn.out.symm]; exact readE_nil ad 0)
    replace hread3 := hidI hread3
    have hb4' : Below w3.heap.size w3 (w3.alloc (.cells #[.int .i64 f, .int .i64 l, .int .i64 t] 25)) := (Below.refl _ _).alloc (Nat.le_refl _) _
    obtain ⟨w4, hw4⟩ : ∃ w4, w4 = (w3.alloc (.cells #[.int .i64 f, .int .i64 l, .int .i64 t] 25)).drew := ⟨_, rfl⟩
    have hb4 : Below w3.heap.size w3 w4 := by rw [hw4]; exact below_dn hb4' 1
    have hs4 : w4.heap.size = w3.heap.size + 1 := by rw [hw4]; show (w3.alloc _).heap.size = _; simp
    have hh4' : w4.heap[w3.heap.size]? = some (.cells #[.int .i64 f, .int .i64 l, .int .i64 t] 25 (0, 0)) := by rw [hw4]; exact heap_alloc_new w3 _
    obtain ⟨w5, hw5⟩ : ∃ w5, w5 = w4.alloc (.cells #[.slice (some ad) 0 0, .slice (some ⟨w3.heap.size, 0, none⟩) 1 1, .slice (some ad) 0 0] 28) := ⟨_, rfl⟩
    have hb45 : Below w4.heap.size w4 w5 := by rw [hw5]; exact (Below.refl _ _).alloc (Nat.le_refl _) _
    have hs5 : w5.heap.size = w4.heap.size + 1 := by rw [hw5]; simp
    have hh5 : w5.heap[w4.heap.size]? = some (.cells #[.slice (some ad) 0 0, .slice (some ⟨w3.heap.size, 0, none⟩) 1 1, .slice (some ad) 0 0] 28 (0, 0)) := by rw [hw5]; exact heap_alloc_new w4 _
    have hh4 : w5.heap[w3.heap.size]? = some (.cells #[.int .i64 f, .int .i64 l, .int .i64 t] 25 (0, 0)) := by rw [hb45.block _ (by omega)]; exact hh4'
    have hb35 := hb4.trans (hb45.mono hb4.size)
    have hlt45 : w3.heap.size < w5.heap.size ∧ w4.heap.size < w5.heap.size ∧ w3.heap.size ≤ w5.heap.size := by omega
    have hq : w2.heap.size < w3.heap.size ∧ w.heap.size + 2 < w3.heap.size := by have := hs1.out; have := hs2.out; have := hs3.out; omega
    have u2 := below_cell x2 hb4 (by omega)
    have u3 := below_cell x3 hb4 (by omega)
    have u4 := below_cell x4 hb4 (by omega)
    have u5 := below_cell x5 hb4 (by omega)
    have s2 := below_cell x2 hb35 (by omega)
    have s3 := below_cell x3 hb35 (by omega)
    have s4 := below_cell x4 hb35 (by omega)
    have s5 := below_cell x5 hb35 (by omega)
    replace hb4 := hidI hb4
    replace hb45 := hidI hb45
    replace hb35 := hidI hb35
    replace hh4 := hidI hh4
    replace hh5 := hidI hh5
    replace hlt45 := hidI hlt45
    replace hw4 := hidI hw4
    replace hw5 := hidI hw5
    replace hs4 := hidI hs4
    replace hs5 := hidI hs5
    replace hq := hidI hq
    clear hh4' hb4'
    go_wp2
    rw [← hw3.out]
    refine hideQ (fun _ _ d _ _ h => by cases d <;> exact h) (fun Q' hnorm hpan => ?_)
    refine wp_region_held_drew (S := (fun z => z.cell? ⟨w.heap.size, 2, none⟩ = some (.slice (some ad) 0 0) ∧ z.cell? ⟨w.heap.size + 1, 0, none⟩ = some (.int .i64 f) ∧ z.cell? ⟨w.heap.size + 1, 1, none⟩ = some (.int .i64 l) ∧ z.cell? ⟨w.heap.size + 1, 2, none⟩ = some (.int .i64 t))) (by kernel_rfl) ?_ (fun hHeld => ?_)
    · try dsimp only
      ((repeat' apply And.intro) <;> assumption)
    refine take_at 0 17 (v := ?_) rfl (by kernel_rfl) (by kernel_rfl) (by kernel_rfl) (by kernel_rfl) hpan (Or.inl ⟨by rfl, ?_⟩) (by assumption) ?_
    rotate_left
    · intro w hSw; (try dsimp only at hSw); go_simp; with_reducible rfl
    simp only [Act.put, List.setIfInBounds_toArray, List.set_cons_zero, List.set_cons_succ]
    refine take_at 1 18 (v := ?_) rfl (by kernel_rfl) (by kernel_rfl) (by kernel_rfl) (by kernel_rfl) hpan (Or.inl ⟨by rfl, ?_⟩) (by assumption) ?_
    rotate_left
    · intro w hSw; (try dsimp only at hSw); go_simp; with_reducible rfl
    simp only [Act.put, List.setIfInBounds_toArray, List.set_cons_zero, List.set_cons_succ]
    refine take_at 2 19 (v := ?_) rfl (by kernel_rfl) (by kernel_rfl) (by kernel_rfl) (by kernel_rfl) hpan (Or.inl ⟨by rfl, ?_⟩) (by assumption) ?_
    rotate_left
    · intro w hSw; (try dsimp only at hSw); go_simp; with_reducible rfl
    simp only [Act.put, List.setIfInBounds_toArray, List.set_cons_zero, List.set_cons_succ]
    refine take_at 3 20 (v := ?_) rfl (by kernel_rfl) (by kernel_rfl) (by kernel_rfl) (by kernel_rfl) hpan (Or.inl ⟨by rfl, ?_⟩) (by assumption) ?_
    rotate_left
    · intro w hSw; (try dsimp only at hSw); go_simp; with_reducible rfl
    simp only [Act.put, List.setIfInBounds_toArray, List.set_cons_zero, List.set_cons_succ]
    refine take_at 4 21 (v := ?_) rfl (by kernel_rfl) (by kernel_rfl) (by kernel_rfl) (by kernel_rfl) hpan (Or.inl ⟨by rfl, ?_⟩) (by assumption) ?_
    rotate_left
    · intro w hSw; (try dsimp only at hSw); go_simp; with_reducible rfl
    simp only [Act.put, List.setIfInBounds_toArray, List.set_cons_zero, List.set_cons_succ]
    refine take_at 6 23 (v := ?_) rfl (by kernel_rfl) (by kernel_rfl) (by kernel_rfl) (by kernel_rfl) hpan (Or.inl ⟨by rfl, ?_⟩) (by assumption) ?_
    rotate_left
    · intro w hSw; (try dsimp only at hSw); go_simp; with_reducible rfl
    simp only [Act.put, List.setIfInBounds_toArray, List.set_cons_zero, List.set_cons_succ]
    refine take_at 7 24 (v := ?_) rfl (by kernel_rfl) (by kernel_rfl) (by kernel_rfl) (by kernel_rfl) hpan (Or.inl ⟨by rfl, ?_⟩) (by assumption) ?_
    rotate_left
    · intro w hSw; (try dsimp only at hSw); go_simp; with_reducible rfl
    simp only [Act.put, List.setIfInBounds_toArray, List.set_cons_zero, List.set_cons_succ]
    refine take_at 8 25 (v := ?_) rfl (by kernel_rfl) (by kernel_rfl) (by kernel_rfl) (by kernel_rfl) hpan (Or.inl ⟨by rfl, ?_⟩) (by assumption) ?_
    rotate_left
    · intro w hSw; (try dsimp only at hSw); go_simp; with_reducible rfl
    simp only [Act.put, List.setIfInBounds_toArray, List.set_cons_zero, List.set_cons_succ]
    refine take_at 9 26 (v := ?_) rfl (by kernel_rfl) (by kernel_rfl) (by kernel_rfl) (by kernel_rfl) hpan (Or.inl ⟨by rfl, ?_⟩) (by assumption) ?_
    rotate_left
    · intro w hSw; (try dsimp only at hSw); go_simp; with_reducible rfl
    simp only [Act.put, List.setIfInBounds_toArray, List.set_cons_zero, List.set_cons_succ]
    refine wpAnyH_ready (rs := [5]) (by kernel_rfl) (by simp) ?_
    refine AllReadyH.cons rfl (fun K hK => ?_) AllReadyH.nil
    rw [if_pos (by rfl)]
    go_simp
    rw [← hw4.out]
    refine hK.out _ _ ?_ (fun hHeld => ?_)
    · try dsimp only
      ((repeat' apply And.intro) <;> assumption)
    clear hK
    try simp only [Act.put, List.setIfInBounds_toArray, List.set_cons_zero, List.set_cons_succ]
    refine wpAnyH_ready (rs := [10]) (by kernel_rfl) (by simp) ?_
    refine AllReadyH.cons rfl (fun K hK => ?_) AllReadyH.nil
    rw [if_pos (by rfl)]
    go_simp
    rw [← hw5.out]
    refine hK.out _ _ ?_ (fun hHeld => ?_)
    · try dsimp only
      ((repeat' apply And.intro) <;> assumption)
    clear hK
    try simp only [Act.put, List.setIfInBounds_toArray, List.set_cons_zero, List.set_cons_succ]
    refine wpAnyH_ready (rs := [11]) (by kernel_rfl) (by simp) ?_
    refine AllReadyH.cons rfl (fun K hK => ?_) AllReadyH.nil
    rw [if_pos (by rfl)]
    go_simp
    refine (gpConcat w5 _ [es.take 0, [(f, l, t)], es.drop 0] (readLE_three hb35.out hh4.out hh5.out hlt45.out hr1.out hr3.out) (by rw [hflat.out, hLl.out]; have := hn.out; omega)).mono ?_
    rw [hflat.out]
    intro e w6 h6
    obtain ⟨a6, n6, cap6, hn6, rfl, hrow6, hb6⟩ := h6.form
    have hb36 := hb35.out.trans (hb6.mono hb35.out.size)
    have y2 := below_cell x2 hb36 (by have := hs1.out; have := hs2.out; have := hs3.out; omega)
    have y3 := below_cell x3 hb36 (by have := hs1.out; have := hs2.out; have := hs3.out; omega)
    have y4 := below_cell x4 hb36 (by have := hs1.out; have := hs2.out; have := hs3.out; omega)
    have y5 := below_cell x5 hb36 (by have := hs1.out; have := hs2.out; have := hs3.out; omega)
    have hkl : w6.heap[w2.heap.size]? = some (.cells #[.int .i64 r, .int .i64 s, .slice (some ad) 0 0] 30 (0, 0)) := by rw [hb36.block _ (by have := hs3.out; omega)]; exact hh3.out
    have z0 := cell_of_heap hkl 0
    have z1 := cell_of_heap hkl 1
    have z2 := cell_of_heap hkl 2
    have fz := fun j => frozen_of_row w6 w2.heap.size j _ _ hkl
    simp at z0 z1 z2
    obtain ⟨w7, hw7⟩ : ∃ w7, w7 = w6.setCell ⟨w2.heap.size, 2, none⟩ (.slice a6 n6 cap6) := ⟨_, rfl⟩
    have hne2 : w.heap.size ≠ w2.heap.size := by have := hs1.out; have := hs2.out; omega
    have hne3 : w.heap.size + 1 ≠ w2.heap.size := by have := hs1.out; have := hs2.out; omega
    have t2 : w7.cell? ⟨w.heap.size, 2, none⟩ = some (.slice (some ad) 0 0) := by rw [hw7, World.cell?_of_block (Below.heap_setCell _ _ _ _ hne2)]; exact y2
    have t3 : w7.cell? ⟨w.heap.size + 1, 0, none⟩ = some (.int .i64 f) := by rw [hw7, World.cell?_of_block (Below.heap_setCell _ _ _ _ hne3)]; exact y3
    have t4 : w7.cell? ⟨w.heap.size + 1, 1, none⟩ = some (.int .i64 l) := by rw [hw7, World.cell?_of_block (Below.heap_setCell _ _ _ _ hne3)]; exact y4
    have t5 : w7.cell? ⟨w.heap.size + 1, 2, none⟩ = some (.int .i64 t) := by rw [hw7, World.cell?_of_block (Below.heap_setCell _ _ _ _ hne3)]; exact y5
    replace hw7 := hidI hw7
    replace hn6 := hidI hn6
    replace hrow6 := hidI hrow6
    replace hb36 := hidI hb36
    replace hb6 := hidI hb6
    replace hkl := hidI hkl
    clear h6
    refine hK.out _ _ ?_ (fun hHeld => ?_)
    · try dsimp only
      ((repeat' apply And.intro) <;> assumption)
    clear hK
    try simp only [Act.put, List.setIfInBounds_toArray, List.set_cons_zero, List.set_cons_succ]
    refine take_at 12 29 (v := ?_) rfl (by kernel_rfl) (by kernel_rfl) (by kernel_rfl) (by kernel_rfl) hpan (Or.inl ⟨by rfl, ?_⟩) (by assumption) ?_
    rotate_left
    · intro w hSw; (try dsimp only at hSw); go_simp; with_reducible rfl
    simp only [Act.put, List.setIfInBounds_toArray, List.set_cons_zero, List.set_cons_succ]
    refine wpAnyH_ready (rs := [13]) (by kernel_rfl) (by simp) ?_
    refine AllReadyH.cons rfl (fun K hK => ?_) AllReadyH.nil
    rw [if_pos (by rfl)]
    go_simp
    rw [← hw7.out]
    refine hK.out _ _ ?_ (fun hHeld => ?_)
    · try dsimp only
      ((repeat' apply And.intro) <;> assumption)
    clear hK
    try simp only [Act.put, List.setIfInBounds_toArray, List.set_cons_zero, List.set_cons_succ]
    refine wpAnyH_done (by kernel_rfl) ?_ _
    refine hnorm _ _ ?_
    clear hnorm hpan
    repeat clear hHeld
    try simp only [Exit.then]
    clear s2 s3 s4 s5 u2 u3 u4 u5 y2 y3 y4 y5 z0 z1 z2 fz t2 t3 t4 t5
    have hsz6 := hb36.out.size
    have hh7 : w7.heap[w2.heap.size]? = some (.cells #[.int .i64 r, .int .i64 s, .slice a6 n6 cap6] 30 (0, 0)) := by
      rw [hw7.out]
      have := heap_setCell_same w6 w2.heap.size 2 _ 30 (.slice a6 n6 cap6) hkl.out
      simpa using this
    have hold : ∀ k, k ≠ w2.heap.size → w7.heap[k]? = w6.heap[k]? := fun k hk => by rw [hw7.out]; exact Below.heap_setCell _ _ _ _ hk
    have hs7 : w7.heap.size = w6.heap.size := by rw [hw7.out]; simp [World.setCell]
    have hb7 : Below w.heap.size w w7 := by
      rw [hw7.out]
      exact (hb13.trans (hb36.out.mono hb13.size)).setCell (p := ⟨w2.heap.size, 2, none⟩) (by have := hs1.out; have := hs2.out; show w.heap.size ≤ w2.heap.size; omega) _
    have hrow7 : RowS 25 3 w7 w5.heap.size w6.heap.size (.slice a6 n6 cap6) L.length (flatE L) := hrow6.out.keep (fun k h1 h2 => hold k (by have := hlt45.out; have := hq.out; omega))
    have hread7 : ReadE w7.heap.size w7 (.slice a6 n6 cap6) L := hrow7.read.mono (by omega)
    have hgz : w7.heap[w.heap.size + 2]? = some (.cells #[.int .i64 0, .int .i64 0, .slice none 0 0] 30 (0, 0)) := by
      have := hs1.out
      have := hs2.out
      have := hq.out
      rw [hold _ (by omega), hb36.out.block _ (by omega), hb3.out.block _ (by omega), hb2.out.block _ (by omega)]
      exact hz.out
    have hgg : w7.heap[w.heap.size]? = some (.cells #[.int .i64 r, .int .i64 s, .slice (some ad) 0 0] 30 (0, 0)) := by
      have := hs1.out
      have := hs2.out
      have := hq.out
      rw [hold _ (by omega), hb36.out.block _ (by omega), hb3.out.block _ (by omega), hb2.out.block _ (by omega)]
      exact hg.out
    have k0 := cell_of_heap hh7 0
    have k1 := cell_of_heap hh7 1
    have k2 := cell_of_heap hh7 2
    simp at k0 k1 k2
    have hig := progIsGr w7 r s _ L hread7 (by rw [hLl.out]; have := hn.out; omega)
    rw [hLF.out.1] at hig
    clear hrow6
    replace hh7 := hidI hh7
    replace hold := hidI hold
    replace hs7 := hidI hs7
    replace hgz := hidI hgz
    replace hgg := hidI hgg
    replace hrow7 := hidI hrow7
    replace hread7 := hidI hread7
    replace hsz6 := hidI hsz6
    go_wp2_with fail
    refine hig.mono ?_
    rintro e w8 ⟨rfl, hb8⟩
    clear hig k0 k1 k2
    have hs78 := hb8.size
    have hh8 : w8.heap[w2.heap.size]? = some (.cells #[.int .i64 r, .int .i64 s, .slice a6 n6 cap6] 30 (0, 0)) := by rw [hb8.block _ (by have := hs7.out; have := hsz6.out; have := hq.out; omega)]; exact hh7.out
    have hz8 : w8.heap[w.heap.size + 2]? = some (.cells #[.int .i64 0, .int .i64 0, .slice none 0 0] 30 (0, 0)) := by rw [hb8.block _ (by have := hs7.out; have := hsz6.out; have := hq.out; omega)]; exact hgz.out
    have hg8 : w8.heap[w.heap.size]? = some (.cells #[.int .i64 r, .int .i64 s, .slice (some ad) 0 0] 30 (0, 0)) := by rw [hb8.block _ (by have := hs7.out; have := hsz6.out; have := hq.out; omega)]; exact hgg.out
    have hb08 : Below w.heap.size w w8 := hb7.trans (hb8.mono hb7.size)
    cases Bv with
    | true =>
      have hFL : F = L := hLF.out.2.1 rfl
      have j0 := cell_of_heap hh8 0
      have j1 := cell_of_heap hh8 1
      have j2 := cell_of_heap hh8 2
      have y0 := cell_of_heap hz8 0
      have y1 := cell_of_heap hz8 1
      have y2 := cell_of_heap hz8 2
      have f2 := fun j => frozen_of_row w8 (w.heap.size + 2) j _ _ hz8
      simp at j0 j1 j2 y0 y1 y2
      have hne : w.heap.size + 2 ≠ w2.heap.size := by have := hs1.out; have := hs2.out; omega
      have hrow8 : RowS 25 3 w8 w5.heap.size w6.heap.size (.slice a6 n6 cap6) L.length (flatE L) := hrow7.out.below hb8 (by have := hs7.out; omega)
      have hfin : LwGraphBool w r s F true (.returned (.tuple #[.agg #[.int .i64 r, .int .i64 s, .slice a6 n6 cap6], .bool true])) (((w8.setCell ⟨w.heap.size + 2, 0, none⟩ (.int .i64 r)).setCell ⟨w.heap.size + 2, 1, none⟩ (.int .i64 s)).setCell ⟨w.heap.size + 2, 2, none⟩ (.slice a6 n6 cap6)) := by
        have := hq.out
        have := hlt45.out
        have := hs7.out
        have hn6' := hn6.out
        subst hn6'
        refine ⟨a6, cap6, by rw [hFL], ?_, below_set3 hb08 (by omega)⟩
        rw [hFL]
        exact RowS.wide (hrow8.set3_ (.inl (by omega))) (by omega) (by rw [size_set3]; omega)
      replace hfin := hidI hfin
      replace hh8 := hidI hh8
      replace hz8 := hidI hz8
      replace hg8 := hidI hg8
      replace hrow8 := hidI hrow8
      replace hFL := hidI hFL
      go_wp2
      (try simp only [Exit.inBlock, Exit.then])
      refine ret_cell2 (x := .bool true) rfl rfl rfl (set3 hz8.out _ _ _) Try.underlying30 sizeGraph ?_
      exact hfin.out
    | false =>
      have hFL : F = es := hLF.out.2.2 rfl
      have j0 := cell_of_heap hg8 0
      have j1 := cell_of_heap hg8 1
      have j2 := cell_of_heap hg8 2
      simp at j0 j1 j2
      have hrd8 : ReadE w8.heap.size w8 (.slice (some ad) es.length 0) es := (hform.out.below hb08).mono hb08.size
      have hcp := gpCopy w8 r s _ es hrd8 (by omega)
      rw [← hn.out] at hcp
      replace hh8 := hidI hh8
      replace hz8 := hidI hz8
      replace hg8 := hidI hg8
      replace hrd8 := hidI hrd8
      go_wp2_with fail
      refine hcp.mono ?_
      intro e w9 h9
      obtain ⟨a9, n9, cap9, hn9, rfl, hrow9, hb9⟩ := h9.formg
      have hz9 : w9.heap[w.heap.size + 2]? = some (.cells #[.int .i64 0, .int .i64 0, .slice none 0 0] 30 (0, 0)) := by rw [hb9.block _ (by have := hs7.out; have := hsz6.out; have := hq.out; omega)]; exact hz8.out
      have y0 := cell_of_heap hz9 0
      have y1 := cell_of_heap hz9 1
      have y2 := cell_of_heap hz9 2
      have f2 := fun j => frozen_of_row w9 (w.heap.size + 2) j _ _ hz9
      simp at y0 y1 y2
      have hb09 := hb08.trans (hb9.mono hb08.size)
      have hfin : LwGraphBool w r s F false (.returned (.tuple #[.agg #[.int .i64 r, .int .i64 s, .slice a9 n9 cap9], .bool false])) (((w9.setCell ⟨w.heap.size + 2, 0, none⟩ (.int .i64 r)).setCell ⟨w.heap.size + 2, 1, none⟩ (.int .i64 s)).setCell ⟨w.heap.size + 2, 2, none⟩ (.slice a9 n9 cap9)) := by
        have := hq.out
        have := hlt45.out
        have := hs7.out
        have := hsz6.out
        have hs9 := hb9.size
        subst hn9
        refine ⟨a9, cap9, by rw [hFL], ?_, below_set3 hb09 (by omega)⟩
        rw [hFL]
        exact RowS.wide (hrow9.set3_ (.inl (by omega))) (by omega) (by rw [size_set3]; omega)
      replace hfin := hidI hfin
      replace hz9 := hidI hz9
      replace hrow9 := hidI hrow9
      replace hFL := hidI hFL
      replace hn9 := hidI hn9
      clear h9 hcp j0 j1 j2
      go_wp2
      (try simp only [Exit.inBlock, Exit.then])
      refine ret_cell2 (x := .bool false) rfl rfl rfl (set3 hz9.out _ _ _) Try.underlying30 sizeGraph ?_
      exact hfin.out
  · have hr3 : Hid (ReadE w3.heap.size w3 (.slice (some ad) 0 cap) (es.drop 0)) := hidI (by rw [List.drop_zero, List.eq_nil_of_length_eq_zero hn.out.symm]; exact readE_nil ad cap)
    replace hread3 := hidI hread3
    have hcp1 : ¬ 0 = cap := by omega
    have hcp2 : ¬ cap = 0 := by omega
    have hcp3 : ¬ (0 : Int) = (cap : Int) := by omega
    have hb4' : Below w3.heap.size w3 (w3.alloc (.cells #[.int .i64 f, .int .i64 l, .int .i64 t] 25)) := (Below.refl _ _).alloc (Nat.le_refl _) _
    obtain ⟨w4, hw4⟩ : ∃ w4, w4 = (w3.alloc (.cells #[.int .i64 f, .int .i64 l, .int .i64 t] 25)).drew := ⟨_, rfl⟩
    have hb4 : Below w3.heap.size w3 w4 := by rw [hw4]; exact below_dn hb4' 1
    have hs4 : w4.heap.size = w3.heap.size + 1 := by rw [hw4]; show (w3.alloc _).heap.size = _; simp
    have hh4' : w4.heap[w3.heap.size]? = some (.cells #[.int .i64 f, .int .i64 l, .int .i64 t] 25 (0, 0)) := by rw [hw4]; exact heap_alloc_new w3 _
    obtain ⟨w5, hw5⟩ : ∃ w5, w5 = w4.alloc (.cells #[.slice (some ad) 0 cap, .slice (some ⟨w3.heap.size, 0, none⟩) 1 1, .slice (some ad) 0 cap] 28) := ⟨_, rfl⟩
    have hb45 : Below w4.heap.size w4 w5 := by rw [hw5]; exact (Below.refl _ _).alloc (Nat.le_refl _) _
    have hs5 : w5.heap.size = w4.heap.size + 1 := by rw [hw5]; simp
    have hh5 : w5.heap[w4.heap.size]? = some (.cells #[.slice (some ad) 0 cap, .slice (some ⟨w3.heap.size, 0, none⟩) 1 1, .slice (some ad) 0 cap] 28 (0, 0)) := by rw [hw5]; exact heap_alloc_new w4 _
    have hh4 : w5.heap[w3.heap.size]? = some (.cells #[.int .i64 f, .int .i64 l, .int .i64 t] 25 (0, 0)) := by rw [hb45.block _ (by omega)]; exact hh4'
    have hb35 := hb4.trans (hb45.mono hb4.size)
    have hlt45 : w3.heap.size < w5.heap.size ∧ w4.heap.size < w5.heap.size ∧ w3.heap.size ≤ w5.heap.size := by omega
    have hq : w2.heap.size < w3.heap.size ∧ w.heap.size + 2 < w3.heap.size := by have := hs1.out; have := hs2.out; have := hs3.out; omega
    have u2 := below_cell x2 hb4 (by omega)
    have u3 := below_cell x3 hb4 (by omega)
    have u4 := below_cell x4 hb4 (by omega)
    have u5 := below_cell x5 hb4 (by omega)
    have s2 := below_cell x2 hb35 (by omega)
    have s3 := below_cell x3 hb35 (by omega)
    have s4 := below_cell x4 hb35 (by omega)
    have s5 := below_cell x5 hb35 (by omega)
    replace hb4 := hidI hb4
    replace hb45 := hidI hb45
    replace hb35 := hidI hb35
    replace hh4 := hidI hh4
    replace hh5 := hidI hh5
    replace hlt45 := hidI hlt45
    replace hw4 := hidI hw4
    replace hw5 := hidI hw5
    replace hs4 := hidI hs4
    replace hs5 := hidI hs5
    replace hq := hidI hq
    clear hh4' hb4'
    go_wp2
    rw [← hw3.out]
    refine hideQ (fun _ _ d _ _ h => by cases d <;> exact h) (fun Q' hnorm hpan => ?_)
    refine wp_region_held_drew (S := (fun z => z.cell? ⟨w.heap.size, 2, none⟩ = some (.slice (some ad) 0 cap) ∧ z.cell? ⟨w.heap.size + 1, 0, none⟩ = some (.int .i64 f) ∧ z.cell? ⟨w.heap.size + 1, 1, none⟩ = some (.int .i64 l) ∧ z.cell? ⟨w.heap.size + 1, 2, none⟩ = some (.int .i64 t))) (by kernel_rfl) ?_ (fun hHeld => ?_)
    · try dsimp only
      ((repeat' apply And.intro) <;> assumption)
    refine take_at 0 17 (v := ?_) rfl (by kernel_rfl) (by kernel_rfl) (by kernel_rfl) (by kernel_rfl) hpan (Or.inl ⟨by rfl, ?_⟩) (by assumption) ?_
    rotate_left
    · intro w hSw; (try dsimp only at hSw); go_simp; with_reducible rfl
    simp only [Act.put, List.setIfInBounds_toArray, List.set_cons_zero, List.set_cons_succ]
    refine take_at 1 18 (v := ?_) rfl (by kernel_rfl) (by kernel_rfl) (by kernel_rfl) (by kernel_rfl) hpan (Or.inl ⟨by rfl, ?_⟩) (by assumption) ?_
    rotate_left
    · intro w hSw; (try dsimp only at hSw); go_simp; with_reducible rfl
    simp only [Act.put, List.setIfInBounds_toArray, List.set_cons_zero, List.set_cons_succ]
    refine take_at 2 19 (v := ?_) rfl (by kernel_rfl) (by kernel_rfl) (by kernel_rfl) (by kernel_rfl) hpan (Or.inl ⟨by rfl, ?_⟩) (by assumption) ?_
    rotate_left
    · intro w hSw; (try dsimp only at hSw); go_simp; with_reducible rfl
    simp only [Act.put, List.setIfInBounds_toArray, List.set_cons_zero, List.set_cons_succ]
    refine take_at 3 20 (v := ?_) rfl (by kernel_rfl) (by kernel_rfl) (by kernel_rfl) (by kernel_rfl) hpan (Or.inl ⟨by rfl, ?_⟩) (by assumption) ?_
    rotate_left
    · intro w hSw; (try dsimp only at hSw); go_simp; with_reducible rfl
    simp only [Act.put, List.setIfInBounds_toArray, List.set_cons_zero, List.set_cons_succ]
    refine take_at 4 21 (v := ?_) rfl (by kernel_rfl) (by kernel_rfl) (by kernel_rfl) (by kernel_rfl) hpan (Or.inl ⟨by rfl, ?_⟩) (by assumption) ?_
    rotate_left
    · intro w hSw; (try dsimp only at hSw); go_simp; with_reducible rfl
    simp only [Act.put, List.setIfInBounds_toArray, List.set_cons_zero, List.set_cons_succ]
    refine take_at 6 23 (v := ?_) rfl (by kernel_rfl) (by kernel_rfl) (by kernel_rfl) (by kernel_rfl) hpan (Or.inl ⟨by rfl, ?_⟩) (by assumption) ?_
    rotate_left
    · intro w hSw; (try dsimp only at hSw); go_simp; with_reducible rfl
    simp only [Act.put, List.setIfInBounds_toArray, List.set_cons_zero, List.set_cons_succ]
    refine take_at 7 24 (v := ?_) rfl (by kernel_rfl) (by kernel_rfl) (by kernel_rfl) (by kernel_rfl) hpan (Or.inl ⟨by rfl, ?_⟩) (by assumption) ?_
    rotate_left
    · intro w hSw; (try dsimp only at hSw); go_simp; with_reducible rfl
    simp only [Act.put, List.setIfInBounds_toArray, List.set_cons_zero, List.set_cons_succ]
    refine take_at 8 25 (v := ?_) rfl (by kernel_rfl) (by kernel_rfl) (by kernel_rfl) (by kernel_rfl) hpan (Or.inl ⟨by rfl, ?_⟩) (by assumption) ?_
    rotate_left
    · intro w hSw; (try dsimp only at hSw); go_simp; with_reducible rfl
    simp only [Act.put, List.setIfInBounds_toArray, List.set_cons_zero, List.set_cons_succ]
    refine take_at 9 26 (v := ?_) rfl (by kernel_rfl) (by kernel_rfl) (by kernel_rfl) (by kernel_rfl) hpan (Or.inl ⟨by rfl, ?_⟩) (by assumption) ?_
    rotate_left
    · intro w hSw; (try dsimp only at hSw); go_simp; with_reducible rfl
    simp only [Act.put, List.setIfInBounds_toArray, List.set_cons_zero, List.set_cons_succ]
    refine wpAnyH_ready (rs := [5]) (by kernel_rfl) (by simp) ?_
    refine AllReadyH.cons rfl (fun K hK => ?_) AllReadyH.nil
    rw [if_pos (by rfl)]
    go_simp
    rw [← hw4.out]
    refine hK.out _ _ ?_ (fun hHeld => ?_)
    · try dsimp only
      ((repeat' apply And.intro) <;> assumption)
    clear hK
    try simp only [Act.put, List.setIfInBounds_toArray, List.set_cons_zero, List.set_cons_succ]
    refine wpAnyH_ready (rs := [10]) (by kernel_rfl) (by simp) ?_
    refine AllReadyH.cons rfl (fun K hK => ?_) AllReadyH.nil
    rw [if_pos (by rfl)]
    go_simp
    rw [← hw5.out]
    refine hK.out _ _ ?_ (fun hHeld => ?_)
    · try dsimp only
      ((repeat' apply And.intro) <;> assumption)
    clear hK
    try simp only [Act.put, List.setIfInBounds_toArray, List.set_cons_zero, List.set_cons_succ]
    refine wpAnyH_ready (rs := [11]) (by kernel_rfl) (by simp) ?_
    refine AllReadyH.cons rfl (fun K hK => ?_) AllReadyH.nil
    rw [if_pos (by rfl)]
    go_simp
    refine (gpConcat w5 _ [es.take 0, [(f, l, t)], es.drop 0] (readLE_three hb35.out hh4.out hh5.out hlt45.out hr1.out hr3.out) (by rw [hflat.out, hLl.out]; have := hn.out; omega)).mono ?_
    rw [hflat.out]
    intro e w6 h6
    obtain ⟨a6, n6, cap6, hn6, rfl, hrow6, hb6⟩ := h6.form
    have hb36 := hb35.out.trans (hb6.mono hb35.out.size)
    have y2 := below_cell x2 hb36 (by have := hs1.out; have := hs2.out; have := hs3.out; omega)
    have y3 := below_cell x3 hb36 (by have := hs1.out; have := hs2.out; have := hs3.out; omega)
    have y4 := below_cell x4 hb36 (by have := hs1.out; have := hs2.out; have := hs3.out; omega)
    have y5 := below_cell x5 hb36 (by have := hs1.out; have := hs2.out; have := hs3.out; omega)
    have hkl : w6.heap[w2.heap.size]? = some (.cells #[.int .i64 r, .int .i64 s, .slice (some ad) 0 cap] 30 (0, 0)) := by rw [hb36.block _ (by have := hs3.out; omega)]; exact hh3.out
    have z0 := cell_of_heap hkl 0
    have z1 := cell_of_heap hkl 1
    have z2 := cell_of_heap hkl 2
    have fz := fun j => frozen_of_row w6 w2.heap.size j _ _ hkl
    simp at z0 z1 z2
    obtain ⟨w7, hw7⟩ : ∃ w7, w7 = w6.setCell ⟨w2.heap.size, 2, none⟩ (.slice a6 n6 cap6) := ⟨_, rfl⟩
    have hne2 : w.heap.size ≠ w2.heap.size := by have := hs1.out; have := hs2.out; omega
    have hne3 : w.heap.size + 1 ≠ w2.heap.size := by have := hs1.out; have := hs2.out; omega
    have t2 : w7.cell? ⟨w.heap.size, 2, none⟩ = some (.slice (some ad) 0 cap) := by rw [hw7, World.cell?_of_block (Below.heap_setCell _ _ _ _ hne2)]; exact y2
    have t3 : w7.cell? ⟨w.heap.size + 1, 0, none⟩ = some (.int .i64 f) := by rw [hw7, World.cell?_of_block (Below.heap_setCell _ _ _ _ hne3)]; exact y3
    have t4 : w7.cell? ⟨w.heap.size + 1, 1, none⟩ = some (.int .i64 l) := by rw [hw7, World.cell?_of_block (Below.heap_setCell _ _ _ _ hne3)]; exact y4
    have t5 : w7.cell? ⟨w.heap.size + 1, 2, none⟩ = some (.int .i64 t) := by rw [hw7, World.cell?_of_block (Below.heap_setCell _ _ _ _ hne3)]; exact y5
    replace hw7 := hidI hw7
    replace hn6 := hidI hn6
    replace hrow6 := hidI hrow6
    replace hb36 := hidI hb36
    replace hb6 := hidI hb6
    replace hkl := hidI hkl
    clear h6
    refine hK.out _ _ ?_ (fun hHeld => ?_)
    · try dsimp only
      ((repeat' apply And.intro) <;> assumption)
    clear hK
    try simp only [Act.put, List.setIfInBounds_toArray, List.set_cons_zero, List.set_cons_succ]
    refine take_at 12 29 (v := ?_) rfl (by kernel_rfl) (by kernel_rfl) (by kernel_rfl) (by kernel_rfl) hpan (Or.inl ⟨by rfl, ?_⟩) (by assumption) ?_
    rotate_left
    · intro w hSw; (try dsimp only at hSw); go_simp; with_reducible rfl
    simp only [Act.put, List.setIfInBounds_toArray, List.set_cons_zero, List.set_cons_succ]
    refine wpAnyH_ready (rs := [13]) (by kernel_rfl) (by simp) ?_
    refine AllReadyH.cons rfl (fun K hK => ?_) AllReadyH.nil
    rw [if_pos (by rfl)]
    go_simp
    rw [← hw7.out]
    refine hK.out _ _ ?_ (fun hHeld => ?_)
    · try dsimp only
      ((repeat' apply And.intro) <;> assumption)
    clear hK
    try simp only [Act.put, List.setIfInBounds_toArray, List.set_cons_zero, List.set_cons_succ]
    refine wpAnyH_done (by kernel_rfl) ?_ _
    refine hnorm _ _ ?_
    clear hnorm hpan
    repeat clear hHeld
    try simp only [Exit.then]
    clear s2 s3 s4 s5 u2 u3 u4 u5 y2 y3 y4 y5 z0 z1 z2 fz t2 t3 t4 t5
    have hsz6 := hb36.out.size
    have hh7 : w7.heap[w2.heap.size]? = some (.cells #[.int .i64 r, .int .i64 s, .slice a6 n6 cap6] 30 (0, 0)) := by
      rw [hw7.out]
      have := heap_setCell_same w6 w2.heap.size 2 _ 30 (.slice a6 n6 cap6) hkl.out
      simpa using this
    have hold : ∀ k, k ≠ w2.heap.size → w7.heap[k]? = w6.heap[k]? := fun k hk => by rw [hw7.out]; exact Below.heap_setCell _ _ _ _ hk
    have hs7 : w7.heap.size = w6.heap.size := by rw [hw7.out]; simp [World.setCell]
    have hb7 : Below w.heap.size w w7 := by
      rw [hw7.out]
      exact (hb13.trans (hb36.out.mono hb13.size)).setCell (p := ⟨w2.heap.size, 2, none⟩) (by have := hs1.out; have := hs2.out; show w.heap.size ≤ w2.heap.size; omega) _
    have hrow7 : RowS 25 3 w7 w5.heap.size w6.heap.size (.slice a6 n6 cap6) L.length (flatE L) := hrow6.out.keep (fun k h1 h2 => hold k (by have := hlt45.out; have := hq.out; omega))
    have hread7 : ReadE w7.heap.size w7 (.slice a6 n6 cap6) L := hrow7.read.mono (by omega)
    have hgz : w7.heap[w.heap.size + 2]? = some (.cells #[.int .i64 0, .int .i64 0, .slice none 0 0] 30 (0, 0)) := by
      have := hs1.out
      have := hs2.out
      have := hq.out
      rw [hold _ (by omega), hb36.out.block _ (by omega), hb3.out.block _ (by omega), hb2.out.block _ (by omega)]
      exact hz.out
    have hgg : w7.heap[w.heap.size]? = some (.cells #[.int .i64 r, .int .i64 s, .slice (some ad) 0 cap] 30 (0, 0)) := by
      have := hs1.out
      have := hs2.out
      have := hq.out
      rw [hold _ (by omega), hb36.out.block _ (by omega), hb3.out.block _ (by omega), hb2.out.block _ (by omega)]
      exact hg.out
    have k0 := cell_of_heap hh7 0
    have k1 := cell_of_heap hh7 1
    have k2 := cell_of_heap hh7 2
    simp at k0 k1 k2
    have hig := progIsGr w7 r s _ L hread7 (by rw [hLl.out]; have := hn.out; omega)
    rw [hLF.out.1] at hig
    clear hrow6
    replace hh7 := hidI hh7
    replace hold := hidI hold
    replace hs7 := hidI hs7
    replace hgz := hidI hgz
    replace hgg := hidI hgg
    replace hrow7 := hidI hrow7
    replace hread7 := hidI hread7
    replace hsz6 := hidI hsz6
    go_wp2_with fail
    refine hig.mono ?_
    rintro e w8 ⟨rfl, hb8⟩
    clear hig k0 k1 k2
    have hs78 := hb8.size
    have hh8 : w8.heap[w2.heap.size]? = some (.cells #[.int .i64 r, .int .i64 s, .slice a6 n6 cap6] 30 (0, 0)) := by rw [hb8.block _ (by have := hs7.out; have := hsz6.out; have := hq.out; omega)]; exact hh7.out
    have hz8 : w8.heap[w.heap.size + 2]? = some (.cells #[.int .i64 0, .int .i64 0, .slice none 0 0] 30 (0, 0)) := by rw [hb8.block _ (by have := hs7.out; have := hsz6.out; have := hq.out; omega)]; exact hgz.out
    have hg8 : w8.heap[w.heap.size]? = some (.cells #[.int .i64 r, .int .i64 s, .slice (some ad) 0 cap] 30 (0, 0)) := by rw [hb8.block _ (by have := hs7.out; have := hsz6.out; have := hq.out; omega)]; exact hgg.out
    have hb08 : Below w.heap.size w w8 := hb7.trans (hb8.mono hb7.size)
    cases Bv with
    | true =>
      have hFL : F = L := hLF.out.2.1 rfl
      have j0 := cell_of_heap hh8 0
      have j1 := cell_of_heap hh8 1
      have j2 := cell_of_heap hh8 2
      have y0 := cell_of_heap hz8 0
      have y1 := cell_of_heap hz8 1
      have y2 := cell_of_heap hz8 2
      have f2 := fun j => frozen_of_row w8 (w.heap.size + 2) j _ _ hz8
      simp at j0 j1 j2 y0 y1 y2
      have hne : w.heap.size + 2 ≠ w2.heap.size := by have := hs1.out; have := hs2.out; omega
      have hrow8 : RowS 25 3 w8 w5.heap.size w6.heap.size (.slice a6 n6 cap6) L.length (flatE L) := hrow7.out.below hb8 (by have := hs7.out; omega)
      have hfin : LwGraphBool w r s F true (.returned (.tuple #[.agg #[.int .i64 r, .int .i64 s, .slice a6 n6 cap6], .bool true])) (((w8.setCell ⟨w.heap.size + 2, 0, none⟩ (.int .i64 r)).setCell ⟨w.heap.size + 2, 1, none⟩ (.int .i64 s)).setCell ⟨w.heap.size + 2, 2, none⟩ (.slice a6 n6 cap6)) := by
        have := hq.out
        have := hlt45.out
        have := hs7.out
        have hn6' := hn6.out
        subst hn6'
        refine ⟨a6, cap6, by rw [hFL], ?_, below_set3 hb08 (by omega)⟩
        rw [hFL]
        exact RowS.wide (hrow8.set3_ (.inl (by omega))) (by omega) (by rw [size_set3]; omega)
      replace hfin := hidI hfin
      replace hh8 := hidI hh8
      replace hz8 := hidI hz8
      replace hg8 := hidI hg8
      replace hrow8 := hidI hrow8
      replace hFL := hidI hFL
      go_wp2
      (try simp only [Exit.inBlock, Exit.then])
      refine ret_cell2 (x := .bool true) rfl rfl rfl (set3 hz8.out _ _ _) Try.underlying30 sizeGraph ?_
      exact hfin.out
    | false =>
      have hFL : F = es := hLF.out.2.2 rfl
      have j0 := cell_of_heap hg8 0
      have j1 := cell_of_heap hg8 1
      have j2 := cell_of_heap hg8 2
      simp at j0 j1 j2
      have hrd8 : ReadE w8.heap.size w8 (.slice (some ad) es.length cap) es := (hform.out.below hb08).mono hb08.size
      have hcp := gpCopy w8 r s _ es hrd8 (by omega)
      rw [← hn.out] at hcp
      replace hh8 := hidI hh8
      replace hz8 := hidI hz8
      replace hg8 := hidI hg8
      replace hrd8 := hidI hrd8
      go_wp2_with fail
      refine hcp.mono ?_
      intro e w9 h9
      obtain ⟨a9, n9, cap9, hn9, rfl, hrow9, hb9⟩ := h9.formg
      have hz9 : w9.heap[w.heap.size + 2]? = some (.cells #[.int .i64 0, .int .i64 0, .slice none 0 0] 30 (0, 0)) := by rw [hb9.block _ (by have := hs7.out; have := hsz6.out; have := hq.out; omega)]; exact hz8.out
      have y0 := cell_of_heap hz9 0
      have y1 := cell_of_heap hz9 1
      have y2 := cell_of_heap hz9 2
      have f2 := fun j => frozen_of_row w9 (w.heap.size + 2) j _ _ hz9
      simp at y0 y1 y2
      have hb09 := hb08.trans (hb9.mono hb08.size)
      have hfin : LwGraphBool w r s F false (.returned (.tuple #[.agg #[.int .i64 r, .int .i64 s, .slice a9 n9 cap9], .bool false])) (((w9.setCell ⟨w.heap.size + 2, 0, none⟩ (.int .i64 r)).setCell ⟨w.heap.size + 2, 1, none⟩ (.int .i64 s)).setCell ⟨w.heap.size + 2, 2, none⟩ (.slice a9 n9 cap9)) := by
        have := hq.out
        have := hlt45.out
        have := hs7.out
        have := hsz6.out
        have hs9 := hb9.size
        subst hn9
        refine ⟨a9, cap9, by rw [hFL], ?_, below_set3 hb09 (by omega)⟩
        rw [hFL]
        exact RowS.wide (hrow9.set3_ (.inl (by omega))) (by omega) (by rw [size_set3]; omega)
      replace hfin := hidI hfin
      replace hz9 := hidI hz9
      replace hrow9 := hidI hrow9
      replace hFL := hidI hFL
      replace hn9 := hidI hn9
      clear h9 hcp j0 j1 j2
      go_wp2
      (try simp only [Exit.inBlock, Exit.then])
      refine ret_cell2 (x := .bool false) rfl rfl rfl (set3 hz9.out _ _ _) Try.underlying30 sizeGraph ?_
      exact hfin.out
  · obtain rfl : n = p := by omega
    subst hpc0
    have hr3 : Hid (ReadE w3.heap.size w3 (.slice (some ⟨b, off, none⟩) 0 0) (es.drop n)) := hidI (by rw [List.drop_of_length_le (by have := hn.out; omega)]; exact readE_nil _ 0)
    replace hread3 := hidI hread3
    have hb4' : Below w3.heap.size w3 (w3.alloc (.cells #[.int .i64 f, .int .i64 l, .int .i64 t] 25)) := (Below.refl _ _).alloc (Nat.le_refl _) _
    obtain ⟨w4, hw4⟩ : ∃ w4, w4 = (w3.alloc (.cells #[.int .i64 f, .int .i64 l, .int .i64 t] 25)).drew := ⟨_, rfl⟩
    have hb4 : Below w3.heap.size w3 w4 := by rw [hw4]; exact below_dn hb4' 1
    have hs4 : w4.heap.size = w3.heap.size + 1 := by rw [hw4]; show (w3.alloc _).heap.size = _; simp
    have hh4' : w4.heap[w3.heap.size]? = some (.cells #[.int .i64 f, .int .i64 l, .int .i64 t] 25 (0, 0)) := by rw [hw4]; exact heap_alloc_new w3 _
    obtain ⟨w5, hw5⟩ : ∃ w5, w5 = w4.alloc (.cells #[.slice (some ⟨b, off, none⟩) n n, .slice (some ⟨w3.heap.size, 0, none⟩) 1 1, .slice (some ⟨b, off, none⟩) 0 0] 28) := ⟨_, rfl⟩
    have hb45 : Below w4.heap.size w4 w5 := by rw [hw5]; exact (Below.refl _ _).alloc (Nat.le_refl _) _
    have hs5 : w5.heap.size = w4.heap.size + 1 := by rw [hw5]; simp
    have hh5 : w5.heap[w4.heap.size]? = some (.cells #[.slice (some ⟨b, off, none⟩) n n, .slice (some ⟨w3.heap.size, 0, none⟩) 1 1, .slice (some ⟨b, off, none⟩) 0 0] 28 (0, 0)) := by rw [hw5]; exact heap_alloc_new w4 _
    have hh4 : w5.heap[w3.heap.size]? = some (.cells #[.int .i64 f, .int .i64 l, .int .i64 t] 25 (0, 0)) := by rw [hb45.block _ (by omega)]; exact hh4'
    have hb35 := hb4.trans (hb45.mono hb4.size)
    have hlt45 : w3.heap.size < w5.heap.size ∧ w4.heap.size < w5.heap.size ∧ w3.heap.size ≤ w5.heap.size := by omega
    have hq : w2.heap.size < w3.heap.size ∧ w.heap.size + 2 < w3.heap.size := by have := hs1.out; have := hs2.out; have := hs3.out; omega
    have u2 := below_cell x2 hb4 (by omega)
    have u3 := below_cell x3 hb4 (by omega)
    have u4 := below_cell x4 hb4 (by omega)
    have u5 := below_cell x5 hb4 (by omega)
    have s2 := below_cell x2 hb35 (by omega)
    have s3 := below_cell x3 hb35 (by omega)
    have s4 := below_cell x4 hb35 (by omega)
    have s5 := below_cell x5 hb35 (by omega)
    replace hb4 := hidI hb4
    replace hb45 := hidI hb45
    replace hb35 := hidI hb35
    replace hh4 := hidI hh4
    replace hh5 := hidI hh5
    replace hlt45 := hidI hlt45
    replace hw4 := hidI hw4
    replace hw5 := hidI hw5
    replace hs4 := hidI hs4
    replace hs5 := hidI hs5
    replace hq := hidI hq
    clear hh4' hb4'
    go_wp2
    rw [← hw3.out]
    refine hideQ (fun _ _ d _ _ h => by cases d <;> exact h) (fun Q' hnorm hpan => ?_)
    refine wp_region_held_drew (S := (fun z => z.cell? ⟨w.heap.size, 2, none⟩ = some (.slice (some ⟨b, off, none⟩) n n) ∧ z.cell? ⟨w.heap.size + 1, 0, none⟩ = some (.int .i64 f) ∧ z.cell? ⟨w.heap.size + 1, 1, none⟩ = some (.int .i64 l) ∧ z.cell? ⟨w.heap.size + 1, 2, none⟩ = some (.int .i64 t))) (by kernel_rfl) ?_ (fun hHeld => ?_)
    · try dsimp only
      ((repeat' apply And.intro) <;> assumption)
    refine take_at 0 17 (v := ?_) rfl (by kernel_rfl) (by kernel_rfl) (by kernel_rfl) (by kernel_rfl) hpan (Or.inl ⟨by rfl, ?_⟩) (by assumption) ?_
    rotate_left
    · intro w hSw; (try dsimp only at hSw); go_simp; with_reducible rfl
    simp only [Act.put, List.setIfInBounds_toArray, List.set_cons_zero, List.set_cons_succ]
    refine take_at 1 18 (v := ?_) rfl (by kernel_rfl) (by kernel_rfl) (by kernel_rfl) (by kernel_rfl) hpan (Or.inl ⟨by rfl, ?_⟩) (by assumption) ?_
    rotate_left
    · intro w hSw; (try dsimp only at hSw); go_simp; with_reducible rfl
    simp only [Act.put, List.setIfInBounds_toArray, List.set_cons_zero, List.set_cons_succ]
    refine take_at 2 19 (v := ?_) rfl (by kernel_rfl) (by kernel_rfl) (by kernel_rfl) (by kernel_rfl) hpan (Or.inl ⟨by rfl, ?_⟩) (by assumption) ?_
    rotate_left
    · intro w hSw; (try dsimp only at hSw); go_simp; with_reducible rfl
    simp only [Act.put, List.setIfInBounds_toArray, List.set_cons_zero, List.set_cons_succ]
    refine take_at 3 20 (v := ?_) rfl (by kernel_rfl) (by kernel_rfl) (by kernel_rfl) (by kernel_rfl) hpan (Or.inl ⟨by rfl, ?_⟩) (by assumption) ?_
    rotate_left
    · intro w hSw; (try dsimp only at hSw); go_simp; with_reducible rfl
    simp only [Act.put, List.setIfInBounds_toArray, List.set_cons_zero, List.set_cons_succ]
    refine take_at 4 21 (v := ?_) rfl (by kernel_rfl) (by kernel_rfl) (by kernel_rfl) (by kernel_rfl) hpan (Or.inl ⟨by rfl, ?_⟩) (by assumption) ?_
    rotate_left
    · intro w hSw; (try dsimp only at hSw); go_simp; with_reducible rfl
    simp only [Act.put, List.setIfInBounds_toArray, List.set_cons_zero, List.set_cons_succ]
    refine take_at 6 23 (v := ?_) rfl (by kernel_rfl) (by kernel_rfl) (by kernel_rfl) (by kernel_rfl) hpan (Or.inl ⟨by rfl, ?_⟩) (by assumption) ?_
    rotate_left
    · intro w hSw; (try dsimp only at hSw); go_simp; with_reducible rfl
    simp only [Act.put, List.setIfInBounds_toArray, List.set_cons_zero, List.set_cons_succ]
    refine take_at 7 24 (v := ?_) rfl (by kernel_rfl) (by kernel_rfl) (by kernel_rfl) (by kernel_rfl) hpan (Or.inl ⟨by rfl, ?_⟩) (by assumption) ?_
    rotate_left
    · intro w hSw; (try dsimp only at hSw); go_simp; with_reducible rfl
    simp only [Act.put, List.setIfInBounds_toArray, List.set_cons_zero, List.set_cons_succ]
    refine take_at 8 25 (v := ?_) rfl (by kernel_rfl) (by kernel_rfl) (by kernel_rfl) (by kernel_rfl) hpan (Or.inl ⟨by rfl, ?_⟩) (by assumption) ?_
    rotate_left
    · intro w hSw; (try dsimp only at hSw); go_simp; with_reducible rfl
    simp only [Act.put, List.setIfInBounds_toArray, List.set_cons_zero, List.set_cons_succ]
    refine take_at 9 26 (v := ?_) rfl (by kernel_rfl) (by kernel_rfl) (by kernel_rfl) (by kernel_rfl) hpan (Or.inl ⟨by rfl, ?_⟩) (by assumption) ?_
    rotate_left
    · intro w hSw; (try dsimp only at hSw); go_simp; with_reducible rfl
    simp only [Act.put, List.setIfInBounds_toArray, List.set_cons_zero, List.set_cons_succ]
    refine wpAnyH_ready (rs := [5]) (by kernel_rfl) (by simp) ?_
    refine AllReadyH.cons rfl (fun K hK => ?_) AllReadyH.nil
    rw [if_pos (by rfl)]
    go_simp
    rw [← hw4.out]
    refine hK.out _ _ ?_ (fun hHeld => ?_)
    · try dsimp only
      ((repeat' apply And.intro) <;> assumption)
    clear hK
    try simp only [Act.put, List.setIfInBounds_toArray, List.set_cons_zero, List.set_cons_succ]
    refine wpAnyH_ready (rs := [10]) (by kernel_rfl) (by simp) ?_
    refine AllReadyH.cons rfl (fun K hK => ?_) AllReadyH.nil
    rw [if_pos (by rfl)]
    go_simp
    rw [← hw5.out]
    refine hK.out _ _ ?_ (fun hHeld => ?_)
    · try dsimp only
      ((repeat' apply And.intro) <;> assumption)
    clear hK
    try simp only [Act.put, List.setIfInBounds_toArray, List.set_cons_zero, List.set_cons_succ]
    refine wpAnyH_ready (rs := [11]) (by kernel_rfl) (by simp) ?_
    refine AllReadyH.cons rfl (fun K hK => ?_) AllReadyH.nil
    rw [if_pos (by rfl)]
    go_simp
    refine (gpConcat w5 _ [es.take n, [(f, l, t)], es.drop n] (readLE_three hb35.out hh4.out hh5.out hlt45.out hr1.out hr3.out) (by rw [hflat.out, hLl.out]; have := hn.out; omega)).mono ?_
    rw [hflat.out]
    intro e w6 h6
    obtain ⟨a6, n6, cap6, hn6, rfl, hrow6, hb6⟩ := h6.form
    have hb36 := hb35.out.trans (hb6.mono hb35.out.size)
    have y2 := below_cell x2 hb36 (by have := hs1.out; have := hs2.out; have := hs3.out; omega)
    have y3 := below_cell x3 hb36 (by have := hs1.out; have := hs2.out; have := hs3.out; omega)
    have y4 := below_cell x4 hb36 (by have := hs1.out; have := hs2.out; have := hs3.out; omega)
    have y5 := below_cell x5 hb36 (by have := hs1.out; have := hs2.out; have := hs3.out; omega)
    have hkl : w6.heap[w2.heap.size]? = some (.cells #[.int .i64 r, .int .i64 s, .slice (some ⟨b, off, none⟩) n n] 30 (0, 0)) := by rw [hb36.block _ (by have := hs3.out; omega)]; exact hh3.out
    have z0 := cell_of_heap hkl 0
    have z1 := cell_of_heap hkl 1
    have z2 := cell_of_heap hkl 2
    have fz := fun j => frozen_of_row w6 w2.heap.size j _ _ hkl
    simp at z0 z1 z2
    obtain ⟨w7, hw7⟩ : ∃ w7, w7 = w6.setCell ⟨w2.heap.size, 2, none⟩ (.slice a6 n6 cap6) := ⟨_, rfl⟩
    have hne2 : w.heap.size ≠ w2.heap.size := by have := hs1.out; have := hs2.out; omega
    have hne3 : w.heap.size + 1 ≠ w2.heap.size := by have := hs1.out; have := hs2.out; omega
    have t2 : w7.cell? ⟨w.heap.size, 2, none⟩ = some (.slice (some ⟨b, off, none⟩) n n) := by rw [hw7, World.cell?_of_block (Below.heap_setCell _ _ _ _ hne2)]; exact y2
    have t3 : w7.cell? ⟨w.heap.size + 1, 0, none⟩ = some (.int .i64 f) := by rw [hw7, World.cell?_of_block (Below.heap_setCell _ _ _ _ hne3)]; exact y3
    have t4 : w7.cell? ⟨w.heap.size + 1, 1, none⟩ = some (.int .i64 l) := by rw [hw7, World.cell?_of_block (Below.heap_setCell _ _ _ _ hne3)]; exact y4
    have t5 : w7.cell? ⟨w.heap.size + 1, 2, none⟩ = some (.int .i64 t) := by rw [hw7, World.cell?_of_block (Below.heap_setCell _ _ _ _ hne3)]; exact y5
    replace hw7 := hidI hw7
    replace hn6 := hidI hn6
    replace hrow6 := hidI hrow6
    replace hb36 := hidI hb36
    replace hb6 := hidI hb6
    replace hkl := hidI hkl
    clear h6
    refine hK.out _ _ ?_ (fun hHeld => ?_)
    · try dsimp only
      ((repeat' apply And.intro) <;> assumption)
    clear hK
    try simp only [Act.put, List.setIfInBounds_toArray, List.set_cons_zero, List.set_cons_succ]
    refine take_at 12 29 (v := ?_) rfl (by kernel_rfl) (by kernel_rfl) (by kernel_rfl) (by kernel_rfl) hpan (Or.inl ⟨by rfl, ?_⟩) (by assumption) ?_
    rotate_left
    · intro w hSw; (try dsimp only at hSw); go_simp; with_reducible rfl
    simp only [Act.put, List.setIfInBounds_toArray, List.set_cons_zero, List.set_cons_succ]
    refine wpAnyH_ready (rs := [13]) (by kernel_rfl) (by simp) ?_
    refine AllReadyH.cons rfl (fun K hK => ?_) AllReadyH.nil
    rw [if_pos (by rfl)]
    go_simp
    rw [← hw7.out]
    refine hK.out _ _ ?_ (fun hHeld => ?_)
    · try dsimp only
      ((repeat' apply And.intro) <;> assumption)
    clear hK
    try simp only [Act.put, List.setIfInBounds_toArray, List.set_cons_zero, List.set_cons_succ]
    refine wpAnyH_done (by kernel_rfl) ?_ _
    refine hnorm _ _ ?_
    clear hnorm hpan
    repeat clear hHeld
    try simp only [Exit.then]
    clear s2 s3 s4 s5 u2 u3 u4 u5 y2 y3 y4 y5 z0 z1 z2 fz t2 t3 t4 t5
    have hsz6 := hb36.out.size
    have hh7 : w7.heap[w2.heap.size]? = some (.cells #[.int .i64 r, .int .i64 s, .slice a6 n6 cap6] 30 (0, 0)) := by
      rw [hw7.out]
      have := heap_setCell_same w6 w2.heap.size 2 _ 30 (.slice a6 n6 cap6) hkl.out
      simpa using this
    have hold : ∀ k, k ≠ w2.heap.size → w7.heap[k]? = w6.heap[k]? := fun k hk => by rw [hw7.out]; exact Below.heap_setCell _ _ _ _ hk
    have hs7 : w7.heap.size = w6.heap.size := by rw [hw7.out]; simp [World.setCell]
    have hb7 : Below w.heap.size w w7 := by
      rw [hw7.out]
      exact (hb13.trans (hb36.out.mono hb13.size)).setCell (p := ⟨w2.heap.size, 2, none⟩) (by have := hs1.out; have := hs2.out; show w.heap.size ≤ w2.heap.size; omega) _
    have hrow7 : RowS 25 3 w7 w5.heap.size w6.heap.size (.slice a6 n6 cap6) L.length (flatE L) := hrow6.out.keep (fun k h1 h2 => hold k (by have := hlt45.out; have := hq.out; omega))
    have hread7 : ReadE w7.heap.size w7 (.slice a6 n6 cap6) L := hrow7.read.mono (by omega)
    have hgz : w7.heap[w.heap.size + 2]? = some (.cells #[.int .i64 0, .int .i64 0, .slice none 0 0] 30 (0, 0)) := by
      have := hs1.out
      have := hs2.out
      have := hq.out
      rw [hold _ (by omega), hb36.out.block _ (by omega), hb3.out.block _ (by omega), hb2.out.block _ (by omega)]
      exact hz.out
    have hgg : w7.heap[w.heap.size]? = some (.cells #[.int .i64 r, .int .i64 s, .slice (some ⟨b, off, none⟩) n n] 30 (0, 0)) := by
      have := hs1.out
      have := hs2.out
      have := hq.out
      rw [hold _ (by omega), hb36.out.block _ (by omega), hb3.out.block _ (by omega), hb2.out.block _ (by omega)]
      exact hg.out
    have k0 := cell_of_heap hh7 0
    have k1 := cell_of_heap hh7 1
    have k2 := cell_of_heap hh7 2
    simp at k0 k1 k2
    have hig := progIsGr w7 r s _ L hread7 (by rw [hLl.out]; have := hn.out; omega)
    rw [hLF.out.1] at hig
    clear hrow6
    replace hh7 := hidI hh7
    replace hold := hidI hold
    replace hs7 := hidI hs7
    replace hgz := hidI hgz
    replace hgg := hidI hgg
    replace hrow7 := hidI hrow7
    replace hread7 := hidI hread7
    replace hsz6 := hidI hsz6
    go_wp2_with fail
    refine hig.mono ?_
    rintro e w8 ⟨rfl, hb8⟩
    clear hig k0 k1 k2
    have hs78 := hb8.size
    have hh8 : w8.heap[w2.heap.size]? = some (.cells #[.int .i64 r, .int .i64 s, .slice a6 n6 cap6] 30 (0, 0)) := by rw [hb8.block _ (by have := hs7.out; have := hsz6.out; have := hq.out; omega)]; exact hh7.out
    have hz8 : w8.heap[w.heap.size + 2]? = some (.cells #[.int .i64 0, .int .i64 0, .slice none 0 0] 30 (0, 0)) := by rw [hb8.block _ (by have := hs7.out; have := hsz6.out; have := hq.out; omega)]; exact hgz.out
    have hg8 : w8.heap[w.heap.size]? = some (.cells #[.int .i64 r, .int .i64 s, .slice (some ⟨b, off, none⟩) n n] 30 (0, 0)) := by rw [hb8.block _ (by have := hs7.out; have := hsz6.out; have := hq.out; omega)]; exact hgg.out
    have hb08 : Below w.heap.size w w8 := hb7.trans (hb8.mono hb7.size)
    cases Bv with
    | true =>
      have hFL : F = L := hLF.out.2.1 rfl
      have j0 := cell_of_heap hh8 0
      have j1 := cell_of_heap hh8 1
      have j2 := cell_of_heap hh8 2
      have y0 := cell_of_heap hz8 0
      have y1 := cell_of_heap hz8 1
      have y2 := cell_of_heap hz8 2
      have f2 := fun j => frozen_of_row w8 (w.heap.size + 2) j _ _ hz8
      simp at j0 j1 j2 y0 y1 y2
      have hne : w.heap.size + 2 ≠ w2.heap.size := by have := hs1.out; have := hs2.out; omega
      have hrow8 : RowS 25 3 w8 w5.heap.size w6.heap.size (.slice a6 n6 cap6) L.length (flatE L) := hrow7.out.below hb8 (by have := hs7.out; omega)
      have hfin : LwGraphBool w r s F true (.returned (.tuple #[.agg #[.int .i64 r, .int .i64 s, .slice a6 n6 cap6], .bool true])) (((w8.setCell ⟨w.heap.size + 2, 0, none⟩ (.int .i64 r)).setCell ⟨w.heap.size + 2, 1, none⟩ (.int .i64 s)).setCell ⟨w.heap.size + 2, 2, none⟩ (.slice a6 n6 cap6)) := by
        have := hq.out
        have := hlt45.out
        have := hs7.out
        have hn6' := hn6.out
        subst hn6'
        refine ⟨a6, cap6, by rw [hFL], ?_, below_set3 hb08 (by omega)⟩
        rw [hFL]
        exact RowS.wide (hrow8.set3_ (.inl (by omega))) (by omega) (by rw [size_set3]; omega)
      replace hfin := hidI hfin
      replace hh8 := hidI hh8
      replace hz8 := hidI hz8
      replace hg8 := hidI hg8
      replace hrow8 := hidI hrow8
      replace hFL := hidI hFL
      go_wp2
      (try simp only [Exit.inBlock, Exit.then])
      refine ret_cell2 (x := .bool true) rfl rfl rfl (set3 hz8.out _ _ _) Try.underlying30 sizeGraph ?_
      exact hfin.out
    | false =>
      have hFL : F = es := hLF.out.2.2 rfl
      have j0 := cell_of_heap hg8 0
      have j1 := cell_of_heap hg8 1
      have j2 := cell_of_heap hg8 2
      simp at j0 j1 j2
      have hrd8 : ReadE w8.heap.size w8 (.slice (some ⟨b, off, none⟩) es.length n) es := (hform.out.below hb08).mono hb08.size
      have hcp := gpCopy w8 r s _ es hrd8 (by omega)
      rw [← hn.out] at hcp
      replace hh8 := hidI hh8
      replace hz8 := hidI hz8
      replace hg8 := hidI hg8
      replace hrd8 := hidI hrd8
      go_wp2_with fail
      refine hcp.mono ?_
      intro e w9 h9
      obtain ⟨a9, n9, cap9, hn9, rfl, hrow9, hb9⟩ := h9.formg
      have hz9 : w9.heap[w.heap.size + 2]? = some (.cells #[.int .i64 0, .int .i64 0, .slice none 0 0] 30 (0, 0)) := by rw [hb9.block _ (by have := hs7.out; have := hsz6.out; have := hq.out; omega)]; exact hz8.out
      have y0 := cell_of_heap hz9 0
      have y1 := cell_of_heap hz9 1
      have y2 := cell_of_heap hz9 2
      have f2 := fun j => frozen_of_row w9 (w.heap.size + 2) j _ _ hz9
      simp at y0 y1 y2
      have hb09 := hb08.trans (hb9.mono hb08.size)
      have hfin : LwGraphBool w r s F false (.returned (.tuple #[.agg #[.int .i64 r, .int .i64 s, .slice a9 n9 cap9], .bool false])) (((w9.setCell ⟨w.heap.size + 2, 0, none⟩ (.int .i64 r)).setCell ⟨w.heap.size + 2, 1, none⟩ (.int .i64 s)).setCell ⟨w.heap.size + 2, 2, none⟩ (.slice a9 n9 cap9)) := by
        have := hq.out
        have := hlt45.out
        have := hs7.out
        have := hsz6.out
        have hs9 := hb9.size
        subst hn9
        refine ⟨a9, cap9, by rw [hFL], ?_, below_set3 hb09 (by omega)⟩
        rw [hFL]
        exact RowS.wide (hrow9.set3_ (.inl (by omega))) (by omega) (by rw [size_set3]; omega)
      replace hfin := hidI hfin
      replace hz9 := hidI hz9
      replace hrow9 := hidI hrow9
      replace hFL := hidI hFL
      replace hn9 := hidI hn9
      clear h9 hcp j0 j1 j2
      go_wp2
      (try simp only [Exit.inBlock, Exit.then])
      refine ret_cell2 (x := .bool false) rfl rfl rfl (set3 hz9.out _ _ _) Try.underlying30 sizeGraph ?_
      exact hfin.out
  · have hr3 : Hid (ReadE w3.heap.size w3 (.slice (some ⟨b, off + p * 3, none⟩) (n - p) (cap - p)) (es.drop p)) := hidI (hread3.others hpl.out.1)
    replace hread3 := hidI hread3
    have hcp1 : ¬ p = cap := by omega
    have hcp2 : ¬ cap = p := by omega
    have hcp3 : ¬ (p : Int) = (cap : Int) := by omega
    have hb4' : Below w3.heap.size w3 (w3.alloc (.cells #[.int .i64 f, .int .i64 l, .int .i64 t] 25)) := (Below.refl _ _).alloc (Nat.le_refl _) _
    obtain ⟨w4, hw4⟩ : ∃ w4, w4 = (w3.alloc (.cells #[.int .i64 f, .int .i64 l, .int .i64 t] 25)).drew := ⟨_, rfl⟩
    have hb4 : Below w3.heap.size w3 w4 := by rw [hw4]; exact below_dn hb4' 1
    have hs4 : w4.heap.size = w3.heap.size + 1 := by rw [hw4]; show (w3.alloc _).heap.size = _; simp
    have hh4' : w4.heap[w3.heap.size]? = some (.cells #[.int .i64 f, .int .i64 l, .int .i64 t] 25 (0, 0)) := by rw [hw4]; exact heap_alloc_new w3 _
    obtain ⟨w5, hw5⟩ : ∃ w5, w5 = w4.alloc (.cells #[.slice (some ⟨b, off, none⟩) p cap, .slice (some ⟨w3.heap.size, 0, none⟩) 1 1, .slice (some ⟨b, off + p * 3, none⟩) (n - p) (cap - p)] 28) := ⟨_, rfl⟩
    have hb45 : Below w4.heap.size w4 w5 := by rw [hw5]; exact (Below.refl _ _).alloc (Nat.le_refl _) _
    have hs5 : w5.heap.size = w4.heap.size + 1 := by rw [hw5]; simp
    have hh5 : w5.heap[w4.heap.size]? = some (.cells #[.slice (some ⟨b, off, none⟩) p cap, .slice (some ⟨w3.heap.size, 0, none⟩) 1 1, .slice (some ⟨b, off + p * 3, none⟩) (n - p) (cap - p)] 28 (0, 0)) := by rw [hw5]; exact heap_alloc_new w4 _
    have hh4 : w5.heap[w3.heap.size]? = some (.cells #[.int .i64 f, .int .i64 l, .int .i64 t] 25 (0, 0)) := by rw [hb45.block _ (by omega)]; exact hh4'
    have hb35 := hb4.trans (hb45.mono hb4.size)
    have hlt45 : w3.heap.size < w5.heap.size ∧ w4.heap.size < w5.heap.size ∧ w3.heap.size ≤ w5.heap.size := by omega
    have hq : w2.heap.size < w3.heap.size ∧ w.heap.size + 2 < w3.heap.size := by have := hs1.out; have := hs2.out; have := hs3.out; omega
    have u2 := below_cell x2 hb4 (by omega)
    have u3 := below_cell x3 hb4 (by omega)
    have u4 := below_cell x4 hb4 (by omega)
    have u5 := below_cell x5 hb4 (by omega)
    have s2 := below_cell x2 hb35 (by omega)
    have s3 := below_cell x3 hb35 (by omega)
    have s4 := below_cell x4 hb35 (by omega)
    have s5 := below_cell x5 hb35 (by omega)
    replace hb4 := hidI hb4
    replace hb45 := hidI hb45
    replace hb35 := hidI hb35
    replace hh4 := hidI hh4
    replace hh5 := hidI hh5
    replace hlt45 := hidI hlt45
    replace hw4 := hidI hw4
    replace hw5 := hidI hw5
    replace hs4 := hidI hs4
    replace hs5 := hidI hs5
    replace hq := hidI hq
    clear hh4' hb4'
    go_wp2
    rw [← hw3.out]
    refine hideQ (fun _ _ d _ _ h => by cases d <;> exact h) (fun Q' hnorm hpan => ?_)
    refine wp_region_held_drew (S := (fun z => z.cell? ⟨w.heap.size, 2, none⟩ = some (.slice (some ⟨b, off, none⟩) n cap) ∧ z.cell? ⟨w.heap.size + 1, 0, none⟩ = some (.int .i64 f) ∧ z.cell? ⟨w.heap.size + 1, 1, none⟩ = some (.int .i64 l) ∧ z.cell? ⟨w.heap.size + 1, 2, none⟩ = some (.int .i64 t))) (by kernel_rfl) ?_ (fun hHeld => ?_)
    · try dsimp only
      ((repeat' apply And.intro) <;> assumption)
    refine take_at 0 17 (v := ?_) rfl (by kernel_rfl) (by kernel_rfl) (by kernel_rfl) (by kernel_rfl) hpan (Or.inl ⟨by rfl, ?_⟩) (by assumption) ?_
    rotate_left
    · intro w hSw; (try dsimp only at hSw); go_simp; with_reducible rfl
    simp only [Act.put, List.setIfInBounds_toArray, List.set_cons_zero, List.set_cons_succ]
    refine take_at 1 18 (v := ?_) rfl (by kernel_rfl) (by kernel_rfl) (by kernel_rfl) (by kernel_rfl) hpan (Or.inl ⟨by rfl, ?_⟩) (by assumption) ?_
    rotate_left
    · intro w hSw; (try dsimp only at hSw); go_simp; with_reducible rfl
    simp only [Act.put, List.setIfInBounds_toArray, List.set_cons_zero, List.set_cons_succ]
    refine take_at 2 19 (v := ?_) rfl (by kernel_rfl) (by kernel_rfl) (by kernel_rfl) (by kernel_rfl) hpan (Or.inl ⟨by rfl, ?_⟩) (by assumption) ?_
    rotate_left
    · intro w hSw; (try dsimp only at hSw); go_simp; with_reducible rfl
    simp only [Act.put, List.setIfInBounds_toArray, List.set_cons_zero, List.set_cons_succ]
    refine take_at 3 20 (v := ?_) rfl (by kernel_rfl) (by kernel_rfl) (by kernel_rfl) (by kernel_rfl) hpan (Or.inl ⟨by rfl, ?_⟩) (by assumption) ?_
    rotate_left
    · intro w hSw; (try dsimp only at hSw); go_simp; with_reducible rfl
    simp only [Act.put, List.setIfInBounds_toArray, List.set_cons_zero, List.set_cons_succ]
    refine take_at 4 21 (v := ?_) rfl (by kernel_rfl) (by kernel_rfl) (by kernel_rfl) (by kernel_rfl) hpan (Or.inl ⟨by rfl, ?_⟩) (by assumption) ?_
    rotate_left
    · intro w hSw; (try dsimp only at hSw); go_simp; with_reducible rfl
    simp only [Act.put, List.setIfInBounds_toArray, List.set_cons_zero, List.set_cons_succ]
    refine take_at 6 23 (v := ?_) rfl (by kernel_rfl) (by kernel_rfl) (by kernel_rfl) (by kernel_rfl) hpan (Or.inl ⟨by rfl, ?_⟩) (by assumption) ?_
    rotate_left
    · intro w hSw; (try dsimp only at hSw); go_simp; with_reducible rfl
    simp only [Act.put, List.setIfInBounds_toArray, List.set_cons_zero, List.set_cons_succ]
    refine take_at 7 24 (v := ?_) rfl (by kernel_rfl) (by kernel_rfl) (by kernel_rfl) (by kernel_rfl) hpan (Or.inl ⟨by rfl, ?_⟩) (by assumption) ?_
    rotate_left
    · intro w hSw; (try dsimp only at hSw); go_simp; with_reducible rfl
    simp only [Act.put, List.setIfInBounds_toArray, List.set_cons_zero, List.set_cons_succ]
    refine take_at 8 25 (v := ?_) rfl (by kernel_rfl) (by kernel_rfl) (by kernel_rfl) (by kernel_rfl) hpan (Or.inl ⟨by rfl, ?_⟩) (by assumption) ?_
    rotate_left
    · intro w hSw; (try dsimp only at hSw); go_simp; with_reducible rfl
    simp only [Act.put, List.setIfInBounds_toArray, List.set_cons_zero, List.set_cons_succ]
    refine take_at 9 26 (v := ?_) rfl (by kernel_rfl) (by kernel_rfl) (by kernel_rfl) (by kernel_rfl) hpan (Or.inl ⟨by rfl, ?_⟩) (by assumption) ?_
    rotate_left
    · intro w hSw; (try dsimp only at hSw); go_simp; with_reducible rfl
    simp only [Act.put, List.setIfInBounds_toArray, List.set_cons_zero, List.set_cons_succ]
    refine wpAnyH_ready (rs := [5]) (by kernel_rfl) (by simp) ?_
    refine AllReadyH.cons rfl (fun K hK => ?_) AllReadyH.nil
    rw [if_pos (by rfl)]
    go_simp
    rw [← hw4.out]
    refine hK.out _ _ ?_ (fun hHeld => ?_)
    · try dsimp only
      ((repeat' apply And.intro) <;> assumption)
    clear hK
    try simp only [Act.put, List.setIfInBounds_toArray, List.set_cons_zero, List.set_cons_succ]
    refine wpAnyH_ready (rs := [10]) (by kernel_rfl) (by simp) ?_
    refine AllReadyH.cons rfl (fun K hK => ?_) AllReadyH.nil
    rw [if_pos (by rfl)]
    go_simp
    rw [← hw5.out]
    refine hK.out _ _ ?_ (fun hHeld => ?_)
    · try dsimp only
      ((repeat' apply And.intro) <;> assumption)
    clear hK
    try simp only [Act.put, List.setIfInBounds_toArray, List.set_cons_zero, List.set_cons_succ]
    refine wpAnyH_ready (rs := [11]) (by kernel_rfl) (by simp) ?_
    refine AllReadyH.cons rfl (fun K hK => ?_) AllReadyH.nil
    rw [if_pos (by rfl)]
    go_simp
    refine (gpConcat w5 _ [es.take p, [(f, l, t)], es.drop p] (readLE_three hb35.out hh4.out hh5.out hlt45.out hr1.out hr3.out) (by rw [hflat.out, hLl.out]; have := hn.out; omega)).mono ?_
    rw [hflat.out]
    intro e w6 h6
    obtain ⟨a6, n6, cap6, hn6, rfl, hrow6, hb6⟩ := h6.form
    have hb36 := hb35.out.trans (hb6.mono hb35.out.size)
    have y2 := below_cell x2 hb36 (by have := hs1.out; have := hs2.out; have := hs3.out; omega)
    have y3 := below_cell x3 hb36 (by have := hs1.out; have := hs2.out; have := hs3.out; omega)
    have y4 := below_cell x4 hb36 (by have := hs1.out; have := hs2.out; have := hs3.out; omega)
    have y5 := below_cell x5 hb36 (by have := hs1.out; have := hs2.out; have := hs3.out; omega)
    have hkl : w6.heap[w2.heap.size]? = some (.cells #[.int .i64 r, .int .i64 s, .slice (some ⟨b, off, none⟩) n cap] 30 (0, 0)) := by rw [hb36.block _ (by have := hs3.out; omega)]; exact hh3.out
    have z0 := cell_of_heap hkl 0
    have z1 := cell_of_heap hkl 1
    have z2 := cell_of_heap hkl 2
    have fz := fun j => frozen_of_row w6 w2.heap.size j _ _ hkl
    simp at z0 z1 z2
    obtain ⟨w7, hw7⟩ : ∃ w7, w7 = w6.setCell ⟨w2.heap.size, 2, none⟩ (.slice a6 n6 cap6) := ⟨_, rfl⟩
    have hne2 : w.heap.size ≠ w2.heap.size := by have := hs1.out; have := hs2.out; omega
    have hne3 : w.heap.size + 1 ≠ w2.heap.size := by have := hs1.out; have := hs2.out; omega
    have t2 : w7.cell? ⟨w.heap.size, 2, none⟩ = some (.slice (some ⟨b, off, none⟩) n cap) := by rw [hw7, World.cell?_of_block (Below.heap_setCell _ _ _ _ hne2)]; exact y2
    have t3 : w7.cell? ⟨w.heap.size + 1, 0, none⟩ = some (.int .i64 f) := by rw [hw7, World.cell?_of_block (Below.heap_setCell _ _ _ _ hne3)]; exact y3
    have t4 : w7.cell? ⟨w.heap.size + 1, 1, none⟩ = some (.int .i64 l) := by rw [hw7, World.cell?_of_block (Below.heap_setCell _ _ _ _ hne3)]; exact y4
    have t5 : w7.cell? ⟨w.heap.size + 1, 2, none⟩ = some (.int .i64 t) := by rw [hw7, World.cell?_of_block (Below.heap_setCell _ _ _ _ hne3)]; exact y5
    replace hw7 := hidI hw7
    replace hn6 := hidI hn6
    replace hrow6 := hidI hrow6
    replace hb36 := hidI hb36
    replace hb6 := hidI hb6
    replace hkl := hidI hkl
    clear h6
    refine hK.out _ _ ?_ (fun hHeld => ?_)
    · try dsimp only
      ((repeat' apply And.intro) <;> assumption)
    clear hK
    try simp only [Act.put, List.setIfInBounds_toArray, List.set_cons_zero, List.set_cons_succ]
    refine take_at 12 29 (v := ?_) rfl (by kernel_rfl) (by kernel_rfl) (by kernel_rfl) (by kernel_rfl) hpan (Or.inl ⟨by rfl, ?_⟩) (by assumption) ?_
    rotate_left
    · intro w hSw; (try dsimp only at hSw); go_simp; with_reducible rfl
    simp only [Act.put, List.setIfInBounds_toArray, List.set_cons_zero, List.set_cons_succ]
    refine wpAnyH_ready (rs := [13]) (by kernel_rfl) (by simp) ?_
    refine AllReadyH.cons rfl (fun K hK => ?_) AllReadyH.nil
    rw [if_pos (by rfl)]
    go_simp
    rw [← hw7.out]
    refine hK.out _ _ ?_ (fun hHeld => ?_)
    · try dsimp only
      ((repeat' apply And.intro) <;> assumption)
    clear hK
    try simp only [Act.put, List.setIfInBounds_toArray, List.set_cons_zero, List.set_cons_succ]
    refine wpAnyH_done (by kernel_rfl) ?_ _
    refine hnorm _ _ ?_
    clear hnorm hpan
    repeat clear hHeld
    try simp only [Exit.then]
    clear s2 s3 s4 s5 u2 u3 u4 u5 y2 y3 y4 y5 z0 z1 z2 fz t2 t3 t4 t5
    have hsz6 := hb36.out.size
    have hh7 : w7.heap[w2.heap.size]? = some (.cells #[.int .i64 r, .int .i64 s, .slice a6 n6 cap6] 30 (0, 0)) := by
      rw [hw7.out]
      have := heap_setCell_same w6 w2.heap.size 2 _ 30 (.slice a6 n6 cap6) hkl.out
      simpa using this
    have hold : ∀ k, k ≠ w2.heap.size → w7.heap[k]? = w6.heap[k]? := fun k hk => by rw [hw7.out]; exact Below.heap_setCell _ _ _ _ hk
    have hs7 : w7.heap.size = w6.heap.size := by rw [hw7.out]; simp [World.setCell]
    have hb7 : Below w.heap.size w w7 := by
      rw [hw7.out]
      exact (hb13.trans (hb36.out.mono hb13.size)).setCell (p := ⟨w2.heap.size, 2, none⟩) (by have := hs1.out; have := hs2.out; show w.heap.size ≤ w2.heap.size; omega) _
    have hrow7 : RowS 25 3 w7 w5.heap.size w6.heap.size (.slice a6 n6 cap6) L.length (flatE L) := hrow6.out.keep (fun k h1 h2 => hold k (by have := hlt45.out; have := hq.out; omega))
    have hread7 : ReadE w7.heap.size w7 (.slice a6 n6 cap6) L := hrow7.read.mono (by omega)
    have hgz : w7.heap[w.heap.size + 2]? = some (.cells #[.int .i64 0, .int .i64 0, .slice none 0 0] 30 (0, 0)) := by
      have := hs1.out
      have := hs2.out
      have := hq.out
      rw [hold _ (by omega), hb36.out.block _ (by omega), hb3.out.block _ (by omega), hb2.out.block _ (by omega)]
      exact hz.out
    have hgg : w7.heap[w.heap.size]? = some (.cells #[.int .i64 r, .int .i64 s, .slice (some ⟨b, off, none⟩) n cap] 30 (0, 0)) := by
      have := hs1.out
      have := hs2.out
      have := hq.out
      rw [hold _ (by omega), hb36.out.block _ (by omega), hb3.out.block _ (by omega), hb2.out.block _ (by omega)]
      exact hg.out
    have k0 := cell_of_heap hh7 0
    have k1 := cell_of_heap hh7 1
    have k2 := cell_of_heap hh7 2
    simp at k0 k1 k2
    have hig := progIsGr w7 r s _ L hread7 (by rw [hLl.out]; have := hn.out; omega)
    rw [hLF.out.1] at hig
    clear hrow6
    replace hh7 := hidI hh7
    replace hold := hidI hold
    replace hs7 := hidI hs7
    replace hgz := hidI hgz
    replace hgg := hidI hgg
    replace hrow7 := hidI hrow7
    replace hread7 := hidI hread7
    replace hsz6 := hidI hsz6
    go_wp2_with fail
    refine hig.mono ?_
    rintro e w8 ⟨rfl, hb8⟩
    clear hig k0 k1 k2
    have hs78 := hb8.size
    have hh8 : w8.heap[w2.heap.size]? = some (.cells #[.int .i64 r, .int .i64 s, .slice a6 n6 cap6] 30 (0, 0)) := by rw [hb8.block _ (by have := hs7.out; have := hsz6.out; have := hq.out; omega)]; exact hh7.out
    have hz8 : w8.heap[w.heap.size + 2]? = some (.cells #[.int .i64 0, .int .i64 0, .slice none 0 0] 30 (0, 0)) := by rw [hb8.block _ (by have := hs7.out; have := hsz6.out; have := hq.out; omega)]; exact hgz.out
    have hg8 : w8.heap[w.heap.size]? = some (.cells #[.int .i64 r, .int .i64 s, .slice (some ⟨b, off, none⟩) n cap] 30 (0, 0)) := by rw [hb8.block _ (by have := hs7.out; have := hsz6.out; have := hq.out; omega)]; exact hgg.out
    have hb08 : Below w.heap.size w w8 := hb7.trans (hb8.mono hb7.size)
    cases Bv with
    | true =>
      have hFL : F = L := hLF.out.2.1 rfl
      have j0 := cell_of_heap hh8 0
      have j1 := cell_of_heap hh8 1
      have j2 := cell_of_heap hh8 2
      have y0 := cell_of_heap hz8 0
      have y1 := cell_of_heap hz8 1
      have y2 := cell_of_heap hz8 2
      have f2 := fun j => frozen_of_row w8 (w.heap.size + 2) j _ _ hz8
      simp at j0 j1 j2 y0 y1 y2
      have hne : w.heap.size + 2 ≠ w2.heap.size := by have := hs1.out; have := hs2.out; omega
      have hrow8 : RowS 25 3 w8 w5.heap.size w6.heap.size (.slice a6 n6 cap6) L.length (flatE L) := hrow7.out.below hb8 (by have := hs7.out; omega)
      have hfin : LwGraphBool w r s F true (.returned (.tuple #[.agg #[.int .i64 r, .int .i64 s, .slice a6 n6 cap6], .bool true])) (((w8.setCell ⟨w.heap.size + 2, 0, none⟩ (.int .i64 r)).setCell ⟨w.heap.size + 2, 1, none⟩ (.int .i64 s)).setCell ⟨w.heap.size + 2, 2, none⟩ (.slice a6 n6 cap6)) := by
        have := hq.out
        have := hlt45.out
        have := hs7.out
        have hn6' := hn6.out
        subst hn6'
        refine ⟨a6, cap6, by rw [hFL], ?_, below_set3 hb08 (by omega)⟩
        rw [hFL]
        exact RowS.wide (hrow8.set3_ (.inl (by omega))) (by omega) (by rw [size_set3]; omega)
      replace hfin := hidI hfin
      replace hh8 := hidI hh8
      replace hz8 := hidI hz8
      replace hg8 := hidI hg8
      replace hrow8 := hidI hrow8
      replace hFL := hidI hFL
      go_wp2
      (try simp only [Exit.inBlock, Exit.then])
      refine ret_cell2 (x := .bool true) rfl rfl rfl (set3 hz8.out _ _ _) Try.underlying30 sizeGraph ?_
      exact hfin.out
    | false =>
      have hFL : F = es := hLF.out.2.2 rfl
      have j0 := cell_of_heap hg8 0
      have j1 := cell_of_heap hg8 1
      have j2 := cell_of_heap hg8 2
      simp at j0 j1 j2
      have hrd8 : ReadE w8.heap.size w8 (.slice (some ⟨b, off, none⟩) es.length cap) es := (hform.out.below hb08).mono hb08.size
      have hcp := gpCopy w8 r s _ es hrd8 (by omega)
      rw [← hn.out] at hcp
      replace hh8 := hidI hh8
      replace hz8 := hidI hz8
      replace hg8 := hidI hg8
      replace hrd8 := hidI hrd8
      go_wp2_with fail
      refine hcp.mono ?_
      intro e w9 h9
      obtain ⟨a9, n9, cap9, hn9, rfl, hrow9, hb9⟩ := h9.formg
      have hz9 : w9.heap[w.heap.size + 2]? = some (.cells #[.int .i64 0, .int .i64 0, .slice none 0 0] 30 (0, 0)) := by rw [hb9.block _ (by have := hs7.out; have := hsz6.out; have := hq.out; omega)]; exact hz8.out
      have y0 := cell_of_heap hz9 0
      have y1 := cell_of_heap hz9 1
      have y2 := cell_of_heap hz9 2
      have f2 := fun j => frozen_of_row w9 (w.heap.size + 2) j _ _ hz9
      simp at y0 y1 y2
      have hb09 := hb08.trans (hb9.mono hb08.size)
      have hfin : LwGraphBool w r s F false (.returned (.tuple #[.agg #[.int .i64 r, .int .i64 s, .slice a9 n9 cap9], .bool false])) (((w9.setCell ⟨w.heap.size + 2, 0, none⟩ (.int .i64 r)).setCell ⟨w.heap.size + 2, 1, none⟩ (.int .i64 s)).setCell ⟨w.heap.size + 2, 2, none⟩ (.slice a9 n9 cap9)) := by
        have := hq.out
        have := hlt45.out
        have := hs7.out
        have := hsz6.out
        have hs9 := hb9.size
        subst hn9
        refine ⟨a9, cap9, by rw [hFL], ?_, below_set3 hb09 (by omega)⟩
        rw [hFL]
        exact RowS.wide (hrow9.set3_ (.inl (by omega))) (by omega) (by rw [size_set3]; omega)
      replace hfin := hidI hfin
      replace hz9 := hidI hz9
      replace hrow9 := hidI hrow9
      replace hFL := hidI hFL
      replace hn9 := hidI hn9
      clear h9 hcp j0 j1 j2
      go_wp2
      (try simp only [Exit.inBlock, Exit.then])
      refine ret_cell2 (x := .bool false) rfl rfl rfl (set3 hz9.out _ _ _) Try.underlying30 sizeGraph ?_
      exact hfin.out
end Go.Proofs.Ytkmhncbakfnfeaa
