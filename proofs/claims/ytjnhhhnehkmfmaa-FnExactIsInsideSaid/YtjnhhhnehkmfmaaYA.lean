/- Subgroups, the program: IsSubgroup, TrivialSubgroup, WholeGroup, IsTrivial, IsWhole (tools/ya.py). -/
import Derived.Test.YtjnhhhnehkmfmaaZN
import Derived.Test.YtjnhhhnehkmfmaaRP
import Derived.Test.YtjnhhhnehkmfmaaQF
import Derived.Test.YtjnhhhnehkmfmaaGS12
import Derived.Test.YtjnhhhnehkmfmaaMS
import Derived.Deep.LoopGhost
import Derived.Deep.Cut
import Derived.Maps.AppendAt
namespace Go.Proofs.Ytjnhhhnehkmfmaa
open Go.RowKit
set_option linter.unusedVariables false
set_option linter.unusedSimpArgs false

set_option maxHeartbeats 3200000 in
theorem progIsSub (w : World) (r s : Int) (v : Value) (es : List Ed) (h : ReadE w.heap.size w v es) (hl : es.length ≤ 10000000) :
    Calls Try.prog 15 #[.agg #[.int .i64 r, .int .i64 s, v]] w (LwBool w (isCo r s es)) := by
  obtain ⟨a, cap, rfl, hnc⟩ := h.form
  obtain ⟨n, hn⟩ : ∃ n, n = es.length := ⟨_, rfl⟩
  rw [← hn] at hl hnc ⊢
  rw [← hn] at h
  obtain ⟨w1, hw1⟩ : ∃ w1, w1 = w.alloc (.cells #[.int .i64 r, .int .i64 s, .slice a n cap] 29) := ⟨_, rfl⟩
  have hb1 : Below w.heap.size w w1 := by rw [hw1]; exact (Below.refl _ _).alloc (Nat.le_refl _) _
  have hs1 : w.heap.size < w1.heap.size := by rw [hw1]; simp
  obtain ⟨g0, g1, g2⟩ := box3 hw1
  have hco := progIsCo w1 r s (.slice a n cap) es (by have := (h.below hb1).mono hb1.size; exact this) (by omega)
  obtain ⟨B, hB⟩ : ∃ B, B = isCo r s es := ⟨_, rfl⟩
  rw [← hB] at hco ⊢
  replace hB := hidI hB
  replace hn := hidI hn
  replace h := hidI h
  replace hw1 := hidI hw1
  go_enter Try.func15, Try.ntmps15
  go_wp2_with fail
  rw [← hw1.out]
  refine hco.mono ?_
  rintro e w2 ⟨rfl, hb2⟩
  clear hco g0 g1 g2
  have hbq := hb1.trans (hb2.mono hb1.size)
  go_wp2
  go_ret
  exact ⟨ret_bool rfl, hbq⟩
set_option maxRecDepth 100000 in
set_option maxHeartbeats 3200000 in
theorem progTrivG (w : World) (r : Int) : Calls Try.prog 24 #[.int .i64 r] w (LwGraphBool w (newR r) (newS r) [] (newB r)) := by
  obtain ⟨w1, hw1⟩ : ∃ z, z = w.alloc (.cells #[.int .i64 0, .int .i64 0, .slice none 0 0] 29) := ⟨_, rfl⟩
  have hb1 : Below w.heap.size w w1 := by rw [hw1]; exact (Below.refl _ _).alloc (Nat.le_refl _) _
  have hs1 : w1.heap.size = w.heap.size + 1 := by rw [hw1]; simp
  have hk := heap_alloc_new w (.cells #[.int .i64 0, .int .i64 0, .slice none 0 0] 29)
  rw [← hw1] at hk
  have hcall : Calls Try.prog 50 #[.int .i64 r] w1 (LwGraphBool w1 (newR r) (newS r) [] (newB r)) := progNewG w1 r
  obtain ⟨PR, hPR⟩ : ∃ B, B = newR r := ⟨_, rfl⟩
  obtain ⟨PS, hPS⟩ : ∃ B, B = newS r := ⟨_, rfl⟩
  obtain ⟨B, hB⟩ : ∃ B, B = newB r := ⟨_, rfl⟩
  obtain ⟨PE, hPE⟩ : ∃ B : List Ed, B = [] := ⟨_, rfl⟩
  rw [← hPR, ← hPS, ← hB, ← hPE] at hcall ⊢
  replace hPR := hidI hPR
  replace hPS := hidI hPS
  replace hPE := hidI hPE
  replace hB := hidI hB
  replace hk := hidI hk
  replace hs1 := hidI hs1
  go_enter Try.func24, Try.ntmps24
  go_upto_region 1 with fail
  rw [← hw1]
  replace hw1 := hidI hw1
  go_wp2_with fail
  refine hcall.mono ?_
  rintro e w2 ⟨b, cap2, rfl, hrow2, hb2⟩
  clear hcall
  have hs2 := hb2.size
  obtain ⟨N, hN⟩ : ∃ N, N = PE.length := ⟨_, rfl⟩
  rw [← hN] at hrow2 ⊢
  have hbw2 : Below w.heap.size w w2 := hb1.trans (hb2.mono hb1.size)
  have hR2 : w2.heap[w.heap.size]? = some (.cells #[.int .i64 0, .int .i64 0, .slice none 0 0] 29 (0, 0)) := by rw [hb2.block _ (by have := hs1.out; omega)]; exact hk.out
  obtain ⟨w3, hw3⟩ : ∃ z, z = w2 := ⟨_, rfl⟩
  have hb3 : Below w2.heap.size w2 w3 := by rw [hw3]; exact Below.refl _ _
  have hs3 := hb3.size
  have hR3 : w3.heap[w.heap.size]? = some (.cells #[.int .i64 0, .int .i64 0, .slice none 0 0] 29 (0, 0)) := by rw [hb3.block _ (by have := hs1.out; omega)]; exact hR2
  have hrow3 : RowS 64 3 w3 w1.heap.size w2.heap.size (.slice b N cap2) N (flatE PE) := hrow2.below hb3 (Nat.le_refl _)
  have hbw3 : Below w.heap.size w w3 := hbw2.trans (hb3.mono (by have := hbw2.size; omega))
  have hfin : LwGraphBool w PR PS PE B (.returned (.tuple #[.agg #[.int .i64 PR, .int .i64 PS, .slice b N cap2], .bool B])) (((w3.setCell ⟨w.heap.size, 0, none⟩ (.int .i64 PR)).setCell ⟨w.heap.size, 1, none⟩ (.int .i64 PS)).setCell ⟨w.heap.size, 2, none⟩ (.slice b N cap2)) := by
    have hs := hs1.out
    refine ⟨b, cap2, by rw [hN], ?_, below_set3 hbw3 (by omega)⟩
    rw [← hN]
    exact RowS.wide (hrow3.set3_ (.inl (by omega))) (by omega) (by rw [size_set3]; omega)
  have y0 := cell_of_heap hR3 0
  have y1 := cell_of_heap hR3 1
  have y2 := cell_of_heap hR3 2
  have f2 := fun j => frozen_of_row w3 w.heap.size j _ _ hR3
  simp at y0 y1 y2
  replace hfin := hidI hfin
  replace hR2 := hidI hR2
  replace hR3 := hidI hR3
  replace hrow2 := hidI hrow2
  replace hrow3 := hidI hrow3
  replace hN := hidI hN
  subst hw3
  go_wp2
  (try simp only [Exit.inBlock, Exit.then])
  refine ret_cell2 (x := .bool B) rfl rfl rfl (Go.Proofs.Ytjnhhhnehkmfmaa.set3 hR3.out _ _ _) Try.underlying29 sizeGraph ?_
  exact hfin.out
theorem OwnsE_form {w : World} {base : Nat} {v : Value} {E : List Ed} (h : OwnsE w base v E) : ∃ a c, v = .slice a E.length c := by
  obtain ⟨_, ⟨h1, h2⟩ | ⟨g, cap, cur, h1, _⟩⟩ := h
  · exact ⟨none, 0, by rw [h1, h2]⟩
  · exact ⟨_, _, h1⟩
theorem OwnsA_keep {w w' : World} {base : Nat} {v : Value} {E : List Ed} (h : OwnsE w base v E) (hb : ∀ k, v.ownBlock = some k → w'.heap[k]? = w.heap[k]?) : OwnsE w' base v E := by
  obtain ⟨h1, h2 | ⟨g, cap, cur, rfl, hg, hh, hr⟩⟩ := h
  · exact ⟨h1, .inl h2⟩
  · exact ⟨h1, .inr ⟨g, cap, cur, rfl, hg, (hb g rfl).trans hh, hr⟩⟩
/-- out = append(out, edge), and where the new row lies. -/
theorem wpList_pushE_at {w0 : World} {ops : Array Oper} {rest : List Oper} {o : Oper} {a : Act} {Q : Exit → Act → World → Prop} (hgd : o.guard = none) (s x : Operand)
    (ho : o.op = .call { callee := .builtin .append, args := #[s, x], argTypes := #[27, 27] }) (base : Nat) (v : Value) (es : List Ed) (f l t : Int)
    (hs : a.eval s = v) (hx : a.eval x = .slice (some ⟨w0.heap.size, 0, none⟩) 1 1) (hown : OwnsE w0 base v es) (hl : es.length ≤ 1000000000) (hbase : base ≤ w0.heap.size)
    (h : ∀ v' w', OwnsE w' base v' (es ++ [(f, l, t)]) → (w0.alloc (.cells #[.int .i64 f, .int .i64 l, .int .i64 t] 64)).grownBy w' v.ownBlock → (v'.ownBlock = v.ownBlock ∨ v'.ownBlock = some (w0.heap.size + 1)) → wpList Try.prog ops Q rest (a.put o.dst v') w') :
    wpList Try.prog ops Q (o :: rest) a (w0.alloc (.cells #[.int .i64 f, .int .i64 l, .int .i64 t] 64)) := by
  obtain ⟨i0, hi, hz0, hz1, hz2⟩ := info_parts infoEdge
  refine wpList_append_own_at _ hgd s x 27 ho base 64 i0 _ 3 24 Try.underlying27 hi hz0 hz1 hz2 rfl (by decide) v es.length ((flatE es).map iv) hs (World.ownsRow.alloc hown _) ⟨w0.heap.size, 0, none⟩ 1 1 [iv f, iv l, iv t] hx rfl ?_ ?_ ?_ ?_ ?_ ?_
  · intro j u hj
    have hk := heap_alloc_new w0 (.cells #[.int .i64 f, .int .i64 l, .int .i64 t] 64)
    rw [addr_plus, Nat.zero_add]
    have c := cell_of_heap hk j
    match j, hj with
    | 0, hj => simp at hj; subst hj; simp [iv]
    | 1, hj => simp at hj; subst hj; simp [iv]
    | 2, hj => simp at hj; subst hj; simp [iv]
  · intro u hu
    simp at hu
    rcases hu with rfl | rfl | rfl <;> rfl
  · unfold maxLen; omega
  · omega
  · simp; omega
  · intro v' w' ho' hg _ hw
    refine h v' w' (by unfold OwnsE OwnsS; rw [flatE_append]; simpa [flatE] using ho') hg (by simpa using hw)
/-- A graph that grows in its box X: its row of edges lies in another block. -/
def GrSt (w : World) (X base : Nat) (r sz : Int) (v : Value) (E : List Ed) : Prop :=
  w.heap[X]? = some (.cells #[.int .i64 r, .int .i64 sz, v] 29 (0, 0)) ∧ OwnsE w base v E ∧ v.ownBlock ≠ some X
theorem GrSt.form {w : World} {X base : Nat} {r sz : Int} {v : Value} {E : List Ed} (h : GrSt w X base r sz v E) : ∃ a c, v = .slice a E.length c := by
  obtain ⟨_, ⟨_, ⟨h1, h2⟩ | ⟨g, cap, cur, h1, _⟩⟩, _⟩ := h
  · exact ⟨none, 0, by rw [h1, h2]⟩
  · exact ⟨_, _, h1⟩
theorem GrSt.mst {w : World} {X base : Nat} {r sz : Int} {v : Value} {E : List Ed} (h : GrSt w X base r sz v E) (hX : X < w.heap.size) (hb : base ≤ w.heap.size) (hl : E.length ≤ 4000000000000) : MSt w X base r sz v E := by
  obtain ⟨h1, h2, h3⟩ := h
  refine ⟨h1, ?_⟩
  have h4 := OwnsS.row h2 hl
  obtain ⟨q0, q1, ⟨rfl, q3⟩ | ⟨g, off, cap, cur, rfl, q3, q4, q5, q6, ⟨rfl, q7⟩, q8⟩⟩ := h4
  · exact ⟨w.heap.size, w.heap.size, ⟨q0, q1, .inl ⟨rfl, q3⟩⟩, hb, Nat.le_refl _, .inr hX⟩
  · have hne : g ≠ X := fun e => h3 (by rw [← e]; rfl)
    exact ⟨g, g + 1, ⟨q0, q1, .inr ⟨g, 0, cap, cur, rfl, Nat.le_refl _, by omega, q5, q6, ⟨rfl, q7⟩, q8⟩⟩, q3, by omega, by omega⟩
set_option maxRecDepth 100000 in
set_option maxHeartbeats 6400000 in
theorem progWholeG (w : World) (r : Int) : Calls Try.prog 28 #[.int .i64 r] w (LwGraphBool w (newR r) (newS r) (whL r) (newB r)) := by
  obtain ⟨w1, hw1⟩ : ∃ z, z = w.alloc (.cells #[.int .i64 0, .int .i64 0, .slice none 0 0] 29) := ⟨_, rfl⟩
  have hb1 : Below w.heap.size w w1 := by rw [hw1]; exact (Below.refl _ _).alloc (Nat.le_refl _) _
  have hs1 : w1.heap.size = w.heap.size + 1 := by rw [hw1]; simp
  have hk := heap_alloc_new w (.cells #[.int .i64 0, .int .i64 0, .slice none 0 0] 29)
  rw [← hw1] at hk
  have hcall : Calls Try.prog 50 #[.int .i64 r] w1 (LwGraphBool w1 (newR r) (newS r) [] (newB r)) := progNewG w1 r
  have hn0 : 0 ≤ newR r ∧ newR r ≤ 3 := by unfold newR; split <;> omega
  obtain ⟨n, hnn⟩ : ∃ n : Nat, newR r = (n : Int) := ⟨(newR r).toNat, by omega⟩
  have hn3 : n ≤ 3 := by omega
  have hwhl : whL r = whN n := by show whN (newR r).toNat = whN n; rw [hnn, Int.toNat_natCast]
  obtain ⟨PS, hPS⟩ : ∃ B, B = newS r := ⟨_, rfl⟩
  obtain ⟨B, hB⟩ : ∃ B, B = newB r := ⟨_, rfl⟩
  rw [hnn, ← hPS, ← hB] at hcall
  rw [hwhl, hnn, ← hPS, ← hB]
  replace hnn := hidI hnn
  replace hwhl := hidI hwhl
  replace hn0 := hidI hn0
  replace hPS := hidI hPS
  replace hB := hidI hB
  replace hk := hidI hk
  replace hs1 := hidI hs1
  go_enter Try.func28, Try.ntmps28
  go_upto_region 1 with fail
  rw [← hw1]
  replace hw1 := hidI hw1
  go_wp2_with fail
  refine hcall.mono ?_
  rintro e w2 ⟨b, cap2, rfl, hrow2, hb2⟩
  clear hcall
  have hs2 := hb2.size
  have hbw2 : Below w.heap.size w w2 := hb1.trans (hb2.mono hb1.size)
  obtain ⟨w3, hw3⟩ : ∃ z, z = w2.alloc (.cells #[.int .i64 (n : Int), .int .i64 PS, .slice b 0 cap2] 29) := ⟨_, rfl⟩
  have hb3 : Below w2.heap.size w2 w3 := by rw [hw3]; exact (Below.refl _ _).alloc (Nat.le_refl _) _
  obtain ⟨x0, x1, x2⟩ := box3 hw3
  have hX3 : w3.heap[w2.heap.size]? = some (.cells #[.int .i64 (n : Int), .int .i64 PS, .slice b 0 cap2] 29 (0, 0)) := by rw [hw3]; exact heap_alloc_new _ _
  have hs3 : w3.heap.size = w2.heap.size + 1 := by rw [hw3]; simp
  have hown3 : OwnsE w3 w1.heap.size (.slice b 0 cap2) [] := OwnsS.later hrow2.owns hb3 (Nat.le_refl _)
  obtain ⟨X, hX⟩ : ∃ X, X = w2.heap.size := ⟨_, rfl⟩
  rw [← hX] at hX3 x0 x1 x2
  have hown2 := hrow2.owns
  have hst0 : Hid (∃ v, GrSt w3 X w1.heap.size (n : Int) PS v (whN 0)) := hidI ⟨_, hX3, hown3, fun e => by
    have h1 := (World.ownsRow.lt hown2 X e).2
    omega⟩
  have hk0 : Hid (Below w1.heap.size w1 w3) := hidI (hb2.trans (hb3.mono hs2))
  have hXs : w1.heap.size ≤ X ∧ X < w3.heap.size := by omega
  replace hX3 := hidI hX3
  replace hown3 := hidI hown3
  replace hown2 := hidI hown2
  replace hrow2 := hidI hrow2
  replace hs3 := hidI hs3
  clear hb3
  go_upto_region 2 with fail
  try simp only [List.length_nil]
  rw [← hw3, ← hX]
  replace hw3 := hidI hw3
  replace hX := hidI hX
  go_wp2
  clear x0 x1 x2
  go_loopg [6, 14] n (fun g x1 x2 wr => ∃ k : Nat, k + g = n ∧ x2 = .int .i64 k ∧ Hid (∃ v, GrSt wr X w1.heap.size (n : Int) PS v (whN k)) ∧ Hid (Below w1.heap.size w1 wr) ∧ X < wr.heap.size)
  case atStart => exact ⟨0, by omega, rfl, hst0, hk0, hXs.2⟩
  case round =>
    clear hst0 hk0
    obtain ⟨k, hk9, rfl, hst, hkb, hXr⟩ := hrel
    obtain ⟨v6, hP⟩ := hst.out
    obtain ⟨av, cv, hv6⟩ := hP.form
    rw [whN_length] at hv6
    subst hv6
    have y0 := cell_of_heap hP.1 0
    have y1 := cell_of_heap hP.1 1
    have y2 := cell_of_heap hP.1 2
    simp at y0 y1 y2
    have hkbs := hkb.out.size
    by_cases hlt : k < n
    · have hki : (k : Int) < (n : Int) := by omega
      have hP0 := hP
      replace hP := hidI hP
      replace hk9 := hidI hk9
      clear hst
      have e0_ := fun o : Obj => ((((Below.refl wr.heap.size wr).alloc (Nat.le_refl _) o).cell (p := (⟨X, 0, none⟩ : Addr)) hXr)).trans y0
      go_wp2_with (at_builtin; go_must (refine wpList_pushE_at rfl _ _ rfl w1.heap.size (.slice av k cv) (whN k) 0 _ 0 rfl rfl hP0.2.1 (by rw [whN_length]; omega) (by omega) ?_))
      intro v8 w8 hown8 hg8 hloc8
      obtain ⟨a8, c8, hv8⟩ := OwnsE_form hown8
      rw [List.length_append, whN_length, List.length_singleton] at hv8
      subst hv8
      have hbn : Below w1.heap.size wr w8 := ((Below.refl w1.heap.size wr).alloc (by omega) _).grown hg8 (by simp; omega) (fun q hq => (World.ownsRow.lt hP0.2.1 q hq).1)
      have hX8 : w8.heap[X]? = some (.cells #[.int .i64 (n : Int), .int .i64 PS, .slice av k cv] 29 (0, 0)) := by
        rw [hg8.block X (by simp; omega) (fun e => hP0.2.2 e.symm), ((Below.refl wr.heap.size wr).alloc (Nat.le_refl _) _).block X hXr]
        exact hP0.1
      have hw8 := hbn.size
      obtain ⟨w9, hw9⟩ : ∃ z, z = w8.setCell ⟨X, 2, none⟩ (.slice a8 (k + 1) c8) := ⟨_, rfl⟩
      have hX9 : w9.heap[X]? = some (.cells #[.int .i64 (n : Int), .int .i64 PS, .slice a8 (k + 1) c8] 29 (0, 0)) := by
        rw [hw9]
        simpa using heap_setCell_same w8 X 2 _ _ (.slice a8 (k + 1) c8) hX8
      have hne : (Value.slice a8 (k + 1) c8).ownBlock ≠ some X := fun e => by
        rcases hloc8 with q | q
        · exact hP0.2.2 (q ▸ e)
        · rw [q] at e
          have : wr.heap.size + 1 = X := by simpa using e
          omega
      have hst9 : Hid (∃ v, GrSt w9 X w1.heap.size (n : Int) PS v (whN (k + 1))) := hidI ⟨_, hX9, OwnsA_keep hown8 (fun q hq => by rw [hw9]; exact Below.heap_setCell _ _ _ _ (fun e => hne (by rw [hq, e]))), hne⟩
      have hb9 : Hid (Below w1.heap.size w1 w9) := hidI (by rw [hw9]; exact (hkb.out.trans hbn).setCell (p := ⟨X, 2, none⟩) (show w1.heap.size ≤ X by omega) _)
      have hs9 : X < w9.heap.size := by rw [hw9]; simp [World.setCell]; omega
      have z2 := cell_of_heap hX8 2
      have fz := fun j => frozen_of_row w8 X j _ _ hX8
      simp at z2
      replace hX9 := hidI hX9
      replace hX8 := hidI hX8
      replace hP0 := hidI hP0
      clear hown8 hg8 hloc8 hbn
      go_wp2
      rw [← hw9]
      replace hw9 := hidI hw9
      go_roundg (n - (k + 1))
      case rel => exact ⟨k + 1, by have := hk9.out; omega, by go_num, hst9, hb9, hs9⟩
      case measure => have := hk9.out; omega
    · obtain rfl : k = n := by omega
      have hki : ¬ (k : Int) < (k : Int) := by omega
      have hwr : Below w.heap.size w wr := hb1.trans (hkb.out.mono (by have := hs1.out; omega))
      have hm := hP.mst hXr (by omega) (by rw [whN_length]; omega)
      have hm2 : MSt wr X w1.heap.size (k : Int) PS (.slice av (whN k).length cv) (whN k) := by rw [whN_length]; exact hm
      have hfin := mst_fin (w := w) (R := w.heap.size) (b := B) (Nat.le_refl _) (show w.heap.size < w1.heap.size by have := hs1.out; omega) hwr hm2
      clear hm hm2
      rw [whN_length] at hfin
      have hRr : wr.heap[w.heap.size]? = some (.cells #[.int .i64 0, .int .i64 0, .slice none 0 0] 29 (0, 0)) := by rw [hkb.out.block _ (by have := hs1.out; omega)]; exact hk.out
      have t0 := cell_of_heap hRr 0
      have t1 := cell_of_heap hRr 1
      have t2 := cell_of_heap hRr 2
      have ft := fun j => frozen_of_row wr w.heap.size j _ _ hRr
      simp at t0 t1 t2
      replace hfin := hidI hfin
      replace hP := hidI hP
      replace hRr := hidI hRr
      replace hk9 := hidI hk9
      clear hst hwr
      go_wp2
      (try simp only [Exit.inBlock, Exit.then])
      refine ret_cell2 (x := .bool B) rfl rfl rfl (Go.Proofs.Ytjnhhhnehkmfmaa.set3 hRr.out _ _ _) Try.underlying29 sizeGraph ?_
      exact hfin.out
set_option maxRecDepth 100000 in
set_option maxHeartbeats 3200000 in
theorem progIsTriv (w : World) (r s : Int) (v : Value) (es : List Ed) (h : ReadE w.heap.size w v es) (hl : es.length ≤ 10000000) :
    Calls Try.prog 30 #[.agg #[.int .i64 r, .int .i64 s, v]] w (LwBool w (suTr r s es)) := by
  obtain ⟨a, cap, rfl, hnc⟩ := h.form
  obtain ⟨n, hn⟩ : ∃ n, n = es.length := ⟨_, rfl⟩
  rw [← hn] at hl hnc ⊢
  rw [← hn] at h
  obtain ⟨w1, hw1⟩ : ∃ w1, w1 = w.alloc (.cells #[.int .i64 r, .int .i64 s, .slice a n cap] 29) := ⟨_, rfl⟩
  have hb1 : Below w.heap.size w w1 := by rw [hw1]; exact (Below.refl _ _).alloc (Nat.le_refl _) _
  have hs1 : w.heap.size < w1.heap.size := by rw [hw1]; simp
  obtain ⟨g0, g1, g2⟩ := box3 hw1
  have hcall := progTrivG w1 r
  obtain ⟨PR, hPR⟩ : ∃ B, B = newR r := ⟨_, rfl⟩
  obtain ⟨PS, hPS⟩ : ∃ B, B = newS r := ⟨_, rfl⟩
  obtain ⟨PE, hPE⟩ : ∃ B : List Ed, B = [] := ⟨_, rfl⟩
  obtain ⟨B, hB⟩ : ∃ B, B = newB r := ⟨_, rfl⟩
  obtain ⟨F, hF⟩ : ∃ B, B = suTr r s es := ⟨_, rfl⟩
  rw [← hPR, ← hPS, ← hB, ← hPE] at hcall
  rw [← hF]
  have hno : B = false → F = false := fun q => by
    rw [hF, suTr_eq]; rw [hB] at q; unfold newB at q; rw [q]; rfl
  have hyes : B = true → F = eqG r s es PR PS PE := fun q => by
    rw [hF, suTr_eq]; rw [hB] at q; unfold newB at q; rw [q, hPR, hPS, hPE]
    rw [decide_eq_true_eq] at q
    unfold newR newS eqG
    rw [if_pos q, if_pos q]
    simp
  have hPl : PE.length ≤ 1000000000 := by rw [hPE]; simp
  replace hno := hidI hno
  replace hyes := hidI hyes
  replace hF := hidI hF
  replace hPR := hidI hPR
  replace hPS := hidI hPS
  replace hPE := hidI hPE
  replace hB := hidI hB
  replace hn := hidI hn
  replace h := hidI h
  replace hw1 := hidI hw1
  go_enter Try.func30, Try.ntmps30
  go_wp2_with fail
  rw [← hw1.out]
  refine hcall.mono ?_
  rintro e w2 ⟨b, cap2, rfl, hrow2, hb2⟩
  clear hcall
  have hs2 := hb2.size
  replace g0 := below_cell g0 hb2 hs1
  replace g1 := below_cell g1 hb2 hs1
  replace g2 := below_cell g2 hb2 hs1
  obtain ⟨N, hN⟩ : ∃ N, N = PE.length := ⟨_, rfl⟩
  rw [← hN] at hrow2 ⊢
  have hbw2 : Below w.heap.size w w2 := hb1.trans (hb2.mono hb1.size)
  obtain ⟨w3, hw3⟩ : ∃ z, z = w2.alloc (.cells #[.int .i64 PR, .int .i64 PS, .slice b N cap2] 29) := ⟨_, rfl⟩
  have hb3 : Below w2.heap.size w2 w3 := by rw [hw3]; exact (Below.refl _ _).alloc (Nat.le_refl _) _
  obtain ⟨x0, x1, x2⟩ := box3 hw3
  have hs3 := hb3.size
  replace g0 := below_cell g0 hb3 (by omega)
  replace g1 := below_cell g1 hb3 (by omega)
  replace g2 := below_cell g2 hb3 (by omega)
  have hrow3 : RowS 64 3 w3 w1.heap.size w2.heap.size (.slice b N cap2) N (flatE PE) := hrow2.below hb3 (Nat.le_refl _)
  have hbw3 : Below w.heap.size w w3 := hbw2.trans (hb3.mono (by have := hbw2.size; omega))
  have heq := progEqG w3 r s PR PS (.slice a n cap) (.slice b N cap2) es PE (by have := (h.out.below hbw3).mono hbw3.size; exact this) (by have := hrow3.read.mono hs3; rw [hN] at this ⊢; exact this) (by have := hn.out; omega) hPl
  replace hrow2 := hidI hrow2
  replace hrow3 := hidI hrow3
  replace hN := hidI hN
  replace hbw3 := hidI hbw3
  go_upto_region 2 with fail
  rw [← hw3]
  replace hw3 := hidI hw3
  cases B with
  | false =>
    have hfin := hidI (hno.out rfl)
    replace hB := hidI hB
    clear heq
    go_wp2
    go_ret
    exact ⟨ret_bool hfin.out.symm, hbw3.out⟩
  | true =>
    rw [← hyes.out rfl] at heq
    replace hB := hidI hB
    go_wp2_with fail
    refine heq.mono ?_
    rintro e w4 ⟨rfl, hb4⟩
    clear heq
    have hbq := hbw3.out.trans (hb4.mono hbw3.out.size)
    go_wp2
    go_ret
    exact ⟨ret_bool rfl, hbq⟩
set_option maxRecDepth 100000 in
set_option maxHeartbeats 3200000 in
theorem progIsWhole (w : World) (r s : Int) (v : Value) (es : List Ed) (h : ReadE w.heap.size w v es) (hl : es.length ≤ 10000000) :
    Calls Try.prog 32 #[.agg #[.int .i64 r, .int .i64 s, v]] w (LwBool w (suWh r s es)) := by
  obtain ⟨a, cap, rfl, hnc⟩ := h.form
  obtain ⟨n, hn⟩ : ∃ n, n = es.length := ⟨_, rfl⟩
  rw [← hn] at hl hnc ⊢
  rw [← hn] at h
  obtain ⟨w1, hw1⟩ : ∃ w1, w1 = w.alloc (.cells #[.int .i64 r, .int .i64 s, .slice a n cap] 29) := ⟨_, rfl⟩
  have hb1 : Below w.heap.size w w1 := by rw [hw1]; exact (Below.refl _ _).alloc (Nat.le_refl _) _
  have hs1 : w.heap.size < w1.heap.size := by rw [hw1]; simp
  obtain ⟨g0, g1, g2⟩ := box3 hw1
  have hcall := progWholeG w1 r
  obtain ⟨PR, hPR⟩ : ∃ B, B = newR r := ⟨_, rfl⟩
  obtain ⟨PS, hPS⟩ : ∃ B, B = newS r := ⟨_, rfl⟩
  obtain ⟨PE, hPE⟩ : ∃ B : List Ed, B = whL r := ⟨_, rfl⟩
  obtain ⟨B, hB⟩ : ∃ B, B = newB r := ⟨_, rfl⟩
  obtain ⟨F, hF⟩ : ∃ B, B = suWh r s es := ⟨_, rfl⟩
  rw [← hPR, ← hPS, ← hB, ← hPE] at hcall
  rw [← hF]
  have hno : B = false → F = false := fun q => by
    rw [hF, suWh_eq2]; rw [hB] at q; unfold newB at q; rw [q]; rfl
  have hyes : B = true → F = eqG r s es PR PS PE := fun q => by
    rw [hF, suWh_eq2]; rw [hB] at q; unfold newB at q; rw [q, hPR, hPS, hPE]
    rw [decide_eq_true_eq] at q
    unfold newR newS eqG
    rw [if_pos q, if_pos q]
    simp
  have hPl : PE.length ≤ 1000000000 := by rw [hPE]; have := whL_length r; omega
  replace hno := hidI hno
  replace hyes := hidI hyes
  replace hF := hidI hF
  replace hPR := hidI hPR
  replace hPS := hidI hPS
  replace hPE := hidI hPE
  replace hB := hidI hB
  replace hn := hidI hn
  replace h := hidI h
  replace hw1 := hidI hw1
  go_enter Try.func32, Try.ntmps32
  go_wp2_with fail
  rw [← hw1.out]
  refine hcall.mono ?_
  rintro e w2 ⟨b, cap2, rfl, hrow2, hb2⟩
  clear hcall
  have hs2 := hb2.size
  replace g0 := below_cell g0 hb2 hs1
  replace g1 := below_cell g1 hb2 hs1
  replace g2 := below_cell g2 hb2 hs1
  obtain ⟨N, hN⟩ : ∃ N, N = PE.length := ⟨_, rfl⟩
  rw [← hN] at hrow2 ⊢
  have hbw2 : Below w.heap.size w w2 := hb1.trans (hb2.mono hb1.size)
  obtain ⟨w3, hw3⟩ : ∃ z, z = w2.alloc (.cells #[.int .i64 PR, .int .i64 PS, .slice b N cap2] 29) := ⟨_, rfl⟩
  have hb3 : Below w2.heap.size w2 w3 := by rw [hw3]; exact (Below.refl _ _).alloc (Nat.le_refl _) _
  obtain ⟨x0, x1, x2⟩ := box3 hw3
  have hs3 := hb3.size
  replace g0 := below_cell g0 hb3 (by omega)
  replace g1 := below_cell g1 hb3 (by omega)
  replace g2 := below_cell g2 hb3 (by omega)
  have hrow3 : RowS 64 3 w3 w1.heap.size w2.heap.size (.slice b N cap2) N (flatE PE) := hrow2.below hb3 (Nat.le_refl _)
  have hbw3 : Below w.heap.size w w3 := hbw2.trans (hb3.mono (by have := hbw2.size; omega))
  have heq := progEqG w3 r s PR PS (.slice a n cap) (.slice b N cap2) es PE (by have := (h.out.below hbw3).mono hbw3.size; exact this) (by have := hrow3.read.mono hs3; rw [hN] at this ⊢; exact this) (by have := hn.out; omega) hPl
  replace hrow2 := hidI hrow2
  replace hrow3 := hidI hrow3
  replace hN := hidI hN
  replace hbw3 := hidI hbw3
  go_upto_region 2 with fail
  rw [← hw3]
  replace hw3 := hidI hw3
  cases B with
  | false =>
    have hfin := hidI (hno.out rfl)
    replace hB := hidI hB
    clear heq
    go_wp2
    go_ret
    exact ⟨ret_bool hfin.out.symm, hbw3.out⟩
  | true =>
    rw [← hyes.out rfl] at heq
    replace hB := hidI hB
    go_wp2_with fail
    refine heq.mono ?_
    rintro e w4 ⟨rfl, hb4⟩
    clear heq
    have hbq := hbw3.out.trans (hb4.mono hbw3.out.size)
    go_wp2
    go_ret
    exact ⟨ret_bool rfl, hbq⟩
end Go.Proofs.Ytjnhhhnehkmfmaa
