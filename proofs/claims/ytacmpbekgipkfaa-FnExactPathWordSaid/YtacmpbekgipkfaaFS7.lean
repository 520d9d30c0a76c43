/- The search by breadth, the model: how a step changes what l5Search keeps. -/
import Derived.Test.YtacmpbekgipkfaaFS6
namespace Go.Proofs.Ytacmpbekgipkfaa
open Go.RowKit
set_option linter.unusedVariables false
set_option linter.unusedSimpArgs false

theorem infoBool : (Try.prog.info? 4).map (fun i => (i.zero, i.size, i.bytes)) = some (some (.bool false), 1, 1) := by kernel_rfl
theorem infoInts : (Try.prog.info? 36).map (fun i => (i.zero, i.size, i.bytes)) = some (some (.slice none 0 0), 1, 24) := by kernel_rfl
theorem fresh_row {w : World} {base g n : Nat} {T : TypeId} {z : Value} (h : w.ownsRow base T 1 (.slice (some ⟨g, 0, none⟩) n n) n (madeCells #[z] n).toList) :
    ∃ cur : Array Value, w.heap[g]? = some (.cells cur T (0, 0)) ∧ cur.size = n ∧ ∀ u : Nat, u < n → cur[u]? = some z := by
  obtain ⟨h1, ⟨h2, _⟩ | ⟨g', cap, cur, hv, hg, hh, hc1, hc2, hc3, hc4⟩⟩ := h
  · cases h2
  · simp only [Value.slice.injEq, Option.some.injEq, Addr.mk.injEq, and_true, true_and] at hv
    obtain ⟨rfl, rfl⟩ := hv
    refine ⟨cur, hh, by simpa using hc3, fun u hu => ?_⟩
    rw [toList_madeCells_one, Nat.mul_one] at hc4
    have : (cur.toList.take n)[u]? = some z := by rw [hc4, List.getElem?_replicate, if_pos hu]
    rw [List.getElem?_take, if_pos hu] at this
    rw [← Array.getElem?_toList]; exact this
/-- out = append(out, z), and where the new row lies. -/
theorem wpList_pushI_at {w0 : World} {ops : Array Oper} {rest : List Oper} {o : Oper} {a : Act} {Q : Exit → Act → World → Prop} (hgd : o.guard = none) (s x : Operand)
    (ho : o.op = .call { callee := .builtin .append, args := #[s, x], argTypes := #[36, 36] }) (base : Nat) (v : Value) (zs : List Int) (z : Int)
    (hs : a.eval s = v) (hx : a.eval x = .slice (some ⟨w0.heap.size, 0, none⟩) 1 1) (hown : OwnsI w0 base v zs) (hl : zs.length ≤ 1000000000) (hbase : base ≤ w0.heap.size)
    (h : ∀ v' w', OwnsI w' base v' (zs ++ [z]) → (w0.alloc (.cells #[.int .i64 z] 3)).grownBy w' v.ownBlock → (v'.ownBlock = v.ownBlock ∨ v'.ownBlock = some (w0.heap.size + 1)) → wpList Try.prog ops Q rest (a.put o.dst v') w') :
    wpList Try.prog ops Q (o :: rest) a (w0.alloc (.cells #[.int .i64 z] 3)) := by
  obtain ⟨i0, hi, hz0, hz1, hz2⟩ := info_parts infoInt
  refine wpList_append_own_at _ hgd s x 36 ho base 3 i0 (.int .i64 0) 1 8 Try.underlying36 hi hz0 hz1 hz2 rfl (by decide) v zs.length (zs.map iv) hs (World.ownsRow.alloc hown _) ⟨w0.heap.size, 0, none⟩ 1 1 [iv z] hx rfl (cell_one_new _ _ _) ?_ ?_ ?_ ?_ ?_
  · intro u hu
    simp at hu
    subst hu; rfl
  · unfold maxLen; omega
  · omega
  · simp; omega
  · intro v' w' ho' hg _ hw
    exact h v' w' (by unfold OwnsI; simpa using ho') hg (by simpa using hw)
theorem OwnsI.other {w w' : World} {base : Nat} {v : Value} {zs : List Int} (h : OwnsI w base v zs) (hb : ∀ k, v.ownBlock = some k → w'.heap[k]? = w.heap[k]?) : OwnsI w' base v zs := by
  obtain ⟨h1, h2 | ⟨g, cap, cur, rfl, hg, hh, hr⟩⟩ := h
  · exact ⟨h1, .inl h2⟩
  · exact ⟨h1, .inr ⟨g, cap, cur, rfl, hg, (hb g rfl).trans hh, hr⟩⟩
theorem OwnsI.form0 {w : World} {base : Nat} {v : Value} {zs : List Int} (h : OwnsI w base v zs) (h0 : 0 < zs.length) : ∃ g cap, v = .slice (some ⟨g, 0, none⟩) zs.length cap ∧ base ≤ g ∧ g < w.heap.size ∧ zs.length ≤ cap := by
  have hlt := World.ownsRow.lt h
  obtain ⟨h1, ⟨_, h2⟩ | ⟨g, cap, cur, rfl, hg, hh, hc, hr⟩⟩ := h
  · omega
  · exact ⟨g, cap, rfl, hg, (hlt g rfl).2, hc⟩
theorem SearchSt.below {w w' : World} {base G H N : Nat} {o : Value} {S : List Ar} (h : SearchSt w base G H N o S) (hb : Below w.heap.size w w') : SearchSt w' base G H N o S where
  seen := h.seen.keep (hb.block G h.seen.lt)
  words := h.words.keep hb.size (hb.block H h.Hlt) (fun b q1 q2 q3 q4 => ⟨hb.block b q1, q4⟩)
  queue := h.queue.other (fun k hk => hb.block k (World.ownsRow.lt h.queue k hk).2)
  qG := h.qG
  qH := h.qH
  GH := h.GH
  Hlt := Nat.lt_of_lt_of_le h.Hlt hb.size
/-- The vertex is marked, its word is made and stored. -/
theorem SearchSt.mid {w w7 v4 v5 : World} {base G H N yN : Nat} {o t : Value} {S : List Ar} {l i : Int} {W : List Int} (h : SearchSt w base G H N o S) (hw7 : w7 = w.setCell ⟨G, yN, none⟩ (.bool true))
    (hB : Below w7.heap.size w7 v4) (hown : OwnsI v4 w7.heap.size t W) (hWl : W.length ≤ 1000000) (hv5 : v5 = v4.setCell ⟨H, yN, none⟩ t) (hy : yN < N) (hn : (yN : Int) ∉ vts S) (hvert : ∀ j, j < S.length → 0 ≤ (S.getD j d0).1.1) :
    BoolsN v5 G N (vts (S ++ [(((yN : Int), l, i), W)])) ∧ WordsAt v5 G H N o.ownBlock (S ++ [(((yN : Int), l, i), W)]) ∧ OwnsI v5 base o (vts S) ∧ w.heap.size ≤ v5.heap.size ∧ Below w7.heap.size w7 v4 := by
  have hs7 : w7.heap.size = w.heap.size := by rw [hw7]; exact setCell_size _ _ _
  have hs5 : v5.heap.size = v4.heap.size := by rw [hv5]; exact setCell_size _ _ _
  have hG := h.seen.lt
  have hb7 : ∀ b, b ≠ G → w7.heap[b]? = w.heap[b]? := fun b hb => by rw [hw7]; exact heap_setCell_other _ _ _ _ hb
  have hseen7 : BoolsN w7 G N (vts (S ++ [(((yN : Int), l, i), W)])) := by
    rw [hw7]
    refine h.seen.set yN hy (fun u hu => ?_)
    rw [vts_more]
    constructor
    · rintro (h | h)
      · exact .inl h
      · exact .inr (by simp at h; omega)
    · rintro (h | h)
      · exact .inl h
      · exact .inr (by simp; omega)
  have hwords4 : WordsAt v4 G H N o.ownBlock S := h.words.keep (by have := hB.size; omega) (by rw [hB.block H (by have := h.Hlt; omega), hb7 H (Ne.symm h.GH)])
    (fun b q1 q2 q3 q4 => ⟨by rw [hB.block b (by omega), hb7 b q2], q4⟩)
  have hlt := World.ownsRow.lt hown
  have hrow := OwnsI.row hown (by omega)
  have hoth5 : ∀ b, b ≠ H → v5.heap[b]? = v4.heap[b]? := fun b hb => by rw [hv5]; exact heap_setCell_other _ _ _ _ hb
  refine ⟨?_, ?_, ?_, by have := hB.size; omega, hB⟩
  · exact (hseen7.keep (hB.block G (by omega))).keep (hoth5 G h.GH)
  · rw [hv5]
    have := hwords4.put (y := (yN : Int)) (l := l) (i := i) (wd := W) (v := t) (by omega) (by simpa using hy) hvert hn hrow.read (fun b hb => by
      have hq := hlt b hb
      refine ⟨hq.2, by omega, by have := h.Hlt; omega, fun he => ?_⟩
      have := (World.ownsRow.lt h.queue b he).2
      omega)
    simpa using this
  · refine h.queue.other (fun k hk => ?_)
    have hq := World.ownsRow.lt h.queue k hk
    rw [hoth5 k (fun he => h.qH (by rw [hk, he])), hB.block k (by omega), hb7 k (fun he => h.qG (by rw [hk, he]))]
/-- The vertex is put into the queue. -/
theorem SearchSt.done {v5 v6 : World} {base G H N : Nat} {o o' : Value} {S T : List Ar} {y : Int} (hGH : G ≠ H) (hqG : o.ownBlock ≠ some G) (hqH : o.ownBlock ≠ some H) (hG : G < v5.heap.size) (hH : H < v5.heap.size)
    (h1 : BoolsN v5 G N (vts T)) (h2 : WordsAt v5 G H N o.ownBlock T) (hT : vts T = vts S ++ [y]) (hown : OwnsI v6 base o' (vts S ++ [y])) (hg : (v5.alloc (.cells #[.int .i64 y] 3)).grownBy v6 o.ownBlock) (hloc : o'.ownBlock = o.ownBlock ∨ o'.ownBlock = some (v5.heap.size + 1)) :
    SearchSt v6 base G H N o' T ∧ v5.heap.size + 1 ≤ v6.heap.size ∧ (∀ q, q < v5.heap.size → o.ownBlock ≠ some q → v6.heap[q]? = v5.heap[q]?) := by
  have hs : v5.heap.size + 1 ≤ v6.heap.size := by have := hg.size; simpa using this
  have hold : ∀ q, q < v5.heap.size → o.ownBlock ≠ some q → v6.heap[q]? = v5.heap[q]? := fun q hq hne => by
    rw [hg.block q (by simp; omega) (fun e => hne e.symm), heap_alloc_old _ _ hq]
  refine ⟨⟨?_, ?_, ?_, ?_, ?_, hGH, by omega⟩, hs, hold⟩
  · exact h1.keep (hold G hG hqG)
  · refine h2.keep (by omega) (hold H hH hqH) (fun b q1 q2 q3 q4 => ⟨hold b q1 q4, ?_⟩)
    rcases hloc with h | h
    · rw [h]; exact q4
    · rw [h]; simp; omega
  · rw [hT]; exact hown
  · rcases hloc with h | h
    · rw [h]; exact hqG
    · rw [h]; simp; omega
  · rcases hloc with h | h
    · rw [h]; exact hqH
    · rw [h]; simp; omega
end Go.Proofs.Ytacmpbekgipkfaa
