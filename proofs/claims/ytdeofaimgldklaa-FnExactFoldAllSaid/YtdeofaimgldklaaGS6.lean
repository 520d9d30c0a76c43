/- Graphs, the model: l4Copy. -/
import Derived.Test.YtdeofaimgldklaaGS5
import Derived.Deep.RegionHeld3
namespace Go.Proofs.Ytdeofaimgldklaa
open Go.RowKit
set_option linter.unusedVariables false
set_option linter.unusedSimpArgs false

/-- out = append(out, x...), inside a region. -/
theorem step_pushAllE {w0 : World} {o : Oper} {a : Act} {K : Act → World → Prop} {Q : Exit → Act → World → Prop} (s x : Operand)
    (ho : o.op = .call { callee := .builtin .append, args := #[s, x], argTypes := #[30, 30] }) (base : Nat) (v vx : Value) (es fs : List Ed) (B : Nat)
    (hs : a.eval s = v) (hx : a.eval x = vx) (hown : OwnsE w0 base v es) (hread : ReadE B w0 vx fs) (hl : es.length + fs.length ≤ 1000000000) (hbase : base ≤ w0.heap.size)
    (h : ∀ v' w', OwnsE w' base v' (es ++ fs) → Below base w0 w' → K (a.put o.dst v') w') :
    Oper.wp Try.prog o a w0 K Q := by
  obtain ⟨i0, hi, hz0, hz1, hz2⟩ := info_parts infoEdge
  obtain ⟨hzl, _, ax, cap, rfl, ⟨hnil, _⟩, hr⟩ := hread
  rcases ax with _ | ad
  · have hy : fs = [] := by
      rcases hr with h0 | ⟨b, off, ha, _⟩
      · exact List.eq_nil_of_length_eq_zero h0
      · cases ha
    subst hy
    rw [hnil rfl] at hx
    have hrun := run_append_owned_none (P := Try.prog) (w := w0) base 30 o.type 68 i0 3 Try.underlying30 hi v es.length ((flatE es).map iv) hown
    unfold Oper.wp
    simp [execOp, ho, resolve, invoke, builtin, hs, hx, hrun, Result.andThen]
    exact h v w0 (by rw [List.append_nil]; exact hown) (Below.refl _ _)
  · refine wp_append_own w0 s x 30 ho base 68 i0 _ 3 24 Try.underlying30 hi hz0 hz1 hz2 rfl (by decide) v es.length ((flatE es).map iv) hs hown ad fs.length cap ((flatE fs).map iv) hx (by simpa using hzl) ?_ ?_ ?_ ?_ hbase ?_
    · intro j u hj
      rw [List.getElem?_map] at hj
      obtain ⟨y, hy, rfl⟩ := Option.map_eq_some_iff.1 hj
      have hjl : j < (flatE fs).length := (List.getElem?_eq_some_iff.1 hy).1
      rcases hr with h0 | ⟨b, off, ha, hB, hc⟩
      · rw [hzl, h0] at hjl; omega
      · cases ha
        have hcj := hc j (by omega)
        rw [List.getD_eq_getElem?_getD, hy] at hcj
        rw [addr_plus]
        simpa [iv] using hcj
    · intro u hu
      obtain ⟨y, _, rfl⟩ := List.mem_map.1 hu
      rfl
    · unfold maxLen; omega
    · omega
    · intro v' w' ho' hg _
      refine h v' w' (by unfold OwnsE OwnsS; rw [flatE_append, List.length_append, List.map_append]; exact ho') ?_
      exact (Below.refl base w0).grown hg hbase (fun k hk => (World.ownsRow.lt hown k hk).1)
set_option maxHeartbeats 1600000 in
theorem specCopy (w : World) (r s : Int) (v : Value) (es : List Ed) (h : ReadE w.heap.size w v es) (hl : es.length ≤ 1000000000) :
    Calls Try.prog 42 #[.agg #[.int .i64 r, .int .i64 s, v]] w (LwGraph w r s es) := by
  obtain ⟨a, cap, rfl, hnc⟩ := h.form
  obtain ⟨n, hn⟩ : ∃ n, n = es.length := ⟨_, rfl⟩
  rw [← hn] at hl hnc ⊢
  rw [← hn] at h
  obtain ⟨w1, hw1⟩ : ∃ w1, w1 = (w.alloc (.cells #[.int .i64 r, .int .i64 s, .slice a n cap] 32)).alloc (.cells #[.int .i64 0, .int .i64 0, .slice none 0 0] 32) := ⟨_, rfl⟩
  have hb1 : Below w.heap.size w w1 := by rw [hw1]; exact ((Below.refl _ _).alloc (Nat.le_refl _) _).alloc (by simp) _
  have hs1 : w1.heap.size = w.heap.size + 1 + 1 := by rw [hw1]; simp
  have hg := heap_box w (.cells #[.int .i64 r, .int .i64 s, .slice a n cap] 32) (.cells #[.int .i64 0, .int .i64 0, .slice none 0 0] 32)
  have hk := heap_alloc_new (w.alloc (.cells #[.int .i64 r, .int .i64 s, .slice a n cap] 32)) (.cells #[.int .i64 0, .int .i64 0, .slice none 0 0] 32)
  rw [← hw1] at hg hk
  rw [show (w.alloc (.cells #[.int .i64 r, .int .i64 s, .slice a n cap] 32)).heap.size = w.heap.size + 1 by simp] at hk
  have g0 : w1.cell? ⟨w.heap.size, 0, none⟩ = some (.int .i64 r) := by simpa using cell_of_heap hg 0
  have g1 : w1.cell? ⟨w.heap.size, 1, none⟩ = some (.int .i64 s) := by simpa using cell_of_heap hg 1
  have g2 : w1.cell? ⟨w.heap.size, 2, none⟩ = some (.slice a n cap) := by simpa using cell_of_heap hg 2
  clear hg
  obtain ⟨w2, hw2⟩ : ∃ w2, w2 = (w1.alloc (.cells #[] 68)).drew := ⟨_, rfl⟩
  have hb2 : Below w1.heap.size w1 w2 := by rw [hw2]; exact below_dn ((Below.refl w1.heap.size w1).alloc (Nat.le_refl _) _) 1
  have hown : OwnsE w2 w1.heap.size (.slice (some ⟨w1.heap.size, 0, none⟩) 0 0) [] := by rw [hw2]; exact OwnsE.litE w1
  have hrd := (h.below hb1).below (hb2.mono hb1.size)
  have q0 := below_cell g0 hb2 (by omega)
  have q1 := below_cell g1 hb2 (by omega)
  have q2 := below_cell g2 hb2 (by omega)
  have hk2 : w2.heap[w.heap.size + 1]? = some (.cells #[.int .i64 0, .int .i64 0, .slice none 0 0] 32 (0, 0)) := by rw [hb2.block _ (by omega)]; exact hk
  replace hn := hidI hn
  replace hw1 := hidI hw1
  replace hw2 := hidI hw2
  replace hk := hidI hk
  replace hk2 := hidI hk2
  replace hown := hidI hown
  replace hrd := hidI hrd
  replace h := hidI h
  replace hs1 := hidI hs1
  go_enter Try.func42, Try.ntmps42
  go_wp2
  rw [← hw1.out]
  refine hideQ (fun _ _ d _ _ h => by cases d <;> exact h) (fun Q' hnorm hpan => ?_)
  refine wp_region_held_drew (S := (fun z => z.cell? ⟨w.heap.size, 0, none⟩ = some (.int .i64 r) ∧ z.cell? ⟨w.heap.size, 1, none⟩ = some (.int .i64 s) ∧ z.cell? ⟨w.heap.size, 2, none⟩ = some (.slice a n cap))) (by kernel_rfl) ?_ (fun hHeld => ?_)
  · try dsimp only
    (first | ((repeat' apply And.intro) <;> assumption) | go_keep)
  refine take_at 0 3 (v := ?_) rfl (by kernel_rfl) (by kernel_rfl) (by kernel_rfl) (by kernel_rfl) hpan (Or.inl ⟨by rfl, ?_⟩) (by assumption) ?_
  rotate_left
  · intro w hSw; (try dsimp only at hSw); go_simp; with_reducible rfl
  simp only [Act.put, List.setIfInBounds_toArray, List.set_cons_zero, List.set_cons_succ]
  refine take_at 1 4 (v := ?_) rfl (by kernel_rfl) (by kernel_rfl) (by kernel_rfl) (by kernel_rfl) hpan (Or.inl ⟨by rfl, ?_⟩) (by assumption) ?_
  rotate_left
  · intro w hSw; (try dsimp only at hSw); go_simp; with_reducible rfl
  simp only [Act.put, List.setIfInBounds_toArray, List.set_cons_zero, List.set_cons_succ]
  refine take_at 2 5 (v := ?_) rfl (by kernel_rfl) (by kernel_rfl) (by kernel_rfl) (by kernel_rfl) hpan (Or.inl ⟨by rfl, ?_⟩) (by assumption) ?_
  rotate_left
  · intro w hSw; (try dsimp only at hSw); go_simp; with_reducible rfl
  simp only [Act.put, List.setIfInBounds_toArray, List.set_cons_zero, List.set_cons_succ]
  refine take_at 3 6 (v := ?_) rfl (by kernel_rfl) (by kernel_rfl) (by kernel_rfl) (by kernel_rfl) hpan (Or.inl ⟨by rfl, ?_⟩) (by assumption) ?_
  rotate_left
  · intro w hSw; (try dsimp only at hSw); go_simp; with_reducible rfl
  simp only [Act.put, List.setIfInBounds_toArray, List.set_cons_zero, List.set_cons_succ]
  refine take_at 5 8 (v := ?_) rfl (by kernel_rfl) (by kernel_rfl) (by kernel_rfl) (by kernel_rfl) hpan (Or.inl ⟨by rfl, ?_⟩) (by assumption) ?_
  rotate_left
  · intro w hSw; (try dsimp only at hSw); go_simp; with_reducible rfl
  simp only [Act.put, List.setIfInBounds_toArray, List.set_cons_zero, List.set_cons_succ]
  refine take_at 6 9 (v := ?_) rfl (by kernel_rfl) (by kernel_rfl) (by kernel_rfl) (by kernel_rfl) hpan (Or.inl ⟨by rfl, ?_⟩) (by assumption) ?_
  rotate_left
  · intro w hSw; (try dsimp only at hSw); go_simp; with_reducible rfl
  simp only [Act.put, List.setIfInBounds_toArray, List.set_cons_zero, List.set_cons_succ]
  refine wpAnyH_ready (rs := [4]) (by kernel_rfl) (by simp) ?_
  refine AllReadyH.cons rfl (fun K hK => ?_) AllReadyH.nil
  rw [if_pos (by rfl)]
  go_simp
  rw [← hw2.out]
  refine hK.out _ _ ?_ (fun hHeld => ?_)
  · try dsimp only
    (first | ((repeat' apply And.intro) <;> assumption) | go_keep)
  clear hK
  try simp only [Act.put, List.setIfInBounds_toArray, List.set_cons_zero, List.set_cons_succ]
  refine wpAnyH_ready (rs := [7]) (by kernel_rfl) (by simp) ?_
  refine AllReadyH.cons rfl (fun K hK => ?_) AllReadyH.nil
  rw [if_pos (by rfl)]
  refine step_pushAllE _ _ rfl w1.heap.size _ _ [] es w.heap.size rfl rfl hown.out (by exact hn.out ▸ hrd.out) (by have := hn.out; simp; omega) hb2.size ?_
  intro v' w3 hown3 hb3'
  have p0 := below_cell q0 hb3' (by have := hs1.out; omega)
  have p1 := below_cell q1 hb3' (by have := hs1.out; omega)
  have p2 := below_cell q2 hb3' (by have := hs1.out; omega)
  have hk3 : w3.heap[w.heap.size + 1]? = some (.cells #[.int .i64 0, .int .i64 0, .slice none 0 0] 32 (0, 0)) := by rw [hb3'.block _ (by have := hs1.out; omega)]; exact hk2.out
  rw [List.nil_append] at hown3
  obtain ⟨a3, m3, c3, rfl⟩ := hown3.form3
  have hrow := hown3.row (by have := hn.out; omega)
  have hm3 := hrow.cap.1
  have c0 := cell_of_heap hk3 0
  have c1 := cell_of_heap hk3 1
  have c2 := cell_of_heap hk3 2
  have f1 := fun j => frozen_of_row w3 (w.heap.size + 1) j _ _ hk3
  simp at c0 c1 c2
  replace hk3 := hidI hk3
  replace hrow := hidI hrow
  replace hm3 := hidI hm3
  replace hown3 := hidI hown3
  refine hK.out _ _ ?_ (fun hHeld => ?_)
  · try dsimp only
    (first | ((repeat' apply And.intro) <;> assumption) | go_keep)
  clear hK
  try simp only [Act.put, List.setIfInBounds_toArray, List.set_cons_zero, List.set_cons_succ]
  refine take_at 8 11 (v := ?_) rfl (by kernel_rfl) (by kernel_rfl) (by kernel_rfl) (by kernel_rfl) hpan (Or.inl ⟨by rfl, ?_⟩) (by assumption) ?_
  rotate_left
  · intro w hSw; (try dsimp only at hSw); go_simp; with_reducible rfl
  simp only [Act.put, List.setIfInBounds_toArray, List.set_cons_zero, List.set_cons_succ]
  refine wpAnyH_ready (rs := [9]) (by kernel_rfl) (by simp) ?_
  refine AllReadyH.cons rfl (fun K hK => ?_) AllReadyH.nil
  rw [if_pos (by rfl)]
  go_simp
  refine hK.out _ _ ?_ (fun hHeld => ?_)
  · try dsimp only
    (first | ((repeat' apply And.intro) <;> assumption) | go_keep)
  clear hK
  try simp only [Act.put, List.setIfInBounds_toArray, List.set_cons_zero, List.set_cons_succ]
  refine wpAnyH_done (by kernel_rfl) ?_ _
  refine hnorm _ _ ?_
  clear hnorm hpan
  repeat clear hHeld
  try simp only [Exit.then]
  go_wp2
  (try simp only [Exit.inBlock, Exit.then])
  refine ret_cell rfl (g := w.heap.size + 1) rfl (set3 hk3.out _ _ _) Try.underlying32 sizeGraph ?_
  have hm3' := hm3.out
  have hs := hs1.out
  subst hm3'
  refine ⟨a3, c3, rfl, ?_, ?_⟩
  · refine RowS.wide (RowS.keep hrow.out (fun k h1 h2 => ?_)) (show w.heap.size ≤ w1.heap.size by omega) (by simp [World.setCell])
    rw [Below.heap_setCell _ _ _ _ (show k ≠ w.heap.size + 1 by omega), Below.heap_setCell _ _ _ _ (show k ≠ w.heap.size + 1 by omega), Below.heap_setCell _ _ _ _ (show k ≠ w.heap.size + 1 by omega)]
  · have hbz := hb1.trans ((hb2.trans hb3').mono hb1.size)
    exact ((hbz.setCell (p := ⟨w.heap.size + 1, 0, none⟩) (by simp) _).setCell (p := ⟨w.heap.size + 1, 1, none⟩) (by simp) _).setCell (p := ⟨w.heap.size + 1, 2, none⟩) (by simp) _
end Go.Proofs.Ytdeofaimgldklaa
