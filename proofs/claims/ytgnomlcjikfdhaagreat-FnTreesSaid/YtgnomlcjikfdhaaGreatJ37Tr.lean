import Derived.Maps.AppendAt
import Derived.Test.YtgnomlcjikfdhaaGreatJ26Tr
import Derived.Test.YtgnomlcjikfdhaaGreatJ18Tr
import Derived.Test.YtgnomlcjikfdhaaGreatJ36Tr
namespace Go.Proofs.YtgnomlcjikfdhaaGreat
open Go.RowKit
set_option linter.unusedVariables false
set_option linter.unusedSimpArgs false
def BoolsN (w : World) (G N : Nat) (L : List Int) : Prop :=
 ∃ cur : Array Value, w.heap[G]? = some (.cells cur 4 (0, 0)) ∧ cur.size = N ∧ ∀ u : Nat, u < N → cur[u]? = some (.bool (decide ((u : Int) ∈ L)))
theorem BoolsN.cell {w : World} {G N : Nat} {L : List Int} (h : BoolsN w G N L) (u : Nat) (hu : u < N) : w.cell? ⟨G, u, none⟩ = some (.bool (decide ((u : Int) ∈ L))) := by
 obtain ⟨cur, hh, hs, hc⟩ := h
 have := cell_of_heap hh u
 rw [this]; exact hc u hu
theorem BoolsN.frozen {w : World} {G N : Nat} {L : List Int} (h : BoolsN w G N L) (u : Nat) : w.frozen? ⟨G, u, none⟩ = false := by
 obtain ⟨cur, hh, hs, hc⟩ := h
 exact frozen_of_row w G u cur _ hh
theorem BoolsN.lt {w : World} {G N : Nat} {L : List Int} (h : BoolsN w G N L) : G < w.heap.size := by
 obtain ⟨cur, hh, hs, hc⟩ := h
 exact (Array.getElem?_eq_some_iff.1 hh).1
theorem BoolsN.keep {w w' : World} {G N : Nat} {L : List Int} (h : BoolsN w G N L) (hb : w'.heap[G]? = w.heap[G]?) : BoolsN w' G N L := by
 obtain ⟨cur, hh, hs, hc⟩ := h
 exact ⟨cur, by rw [hb]; exact hh, hs, hc⟩
theorem BoolsN.set {w : World} {G N : Nat} {L L' : List Int} (h : BoolsN w G N L) (x : Nat) (hx : x < N) (hL : ∀ u : Nat, u < N → ((u : Int) ∈ L' ↔ (u : Int) ∈ L ∨ u = x)) : BoolsN (w.setCell ⟨G, x, none⟩ (.bool true)) G N L' := by
 obtain ⟨cur, hh, hs, hc⟩ := h
 refine ⟨cur.setIfInBounds x (.bool true), heap_setCell_same w G x cur _ _ hh, by simpa using hs, fun u hu => ?_⟩
 by_cases hux : u = x
 · subst hux
   rw [Array.getElem?_setIfInBounds_self_of_lt (by omega)]
   rw [decide_eq_true ((hL u hu).2 (.inr rfl))]
 · rw [Array.getElem?_setIfInBounds_ne (by omega), hc u hu]
   have := hL u hu
   by_cases hm : (u : Int) ∈ L
   · rw [decide_eq_true hm, decide_eq_true (this.2 (.inl hm))]
   · rw [decide_eq_false hm, decide_eq_false (fun h => by rcases this.1 h with h | h <;> contradiction)]
def WordsAt (w : World) (G H N : Nat) (qb : Option Nat) (S : List Ar) : Prop :=
 ∃ cur : Array Value, w.heap[H]? = some (.cells cur 33 (0, 0)) ∧ cur.size = N ∧ ∀ j, j < S.length → ∃ v, cur[(S.getD j d0).1.1.toNat]? = some v ∧ ReadI w.heap.size w v (S.getD j d0).2 ∧ ∀ b, v.ownBlock = some b → b < w.heap.size ∧ b ≠ G ∧ b ≠ H ∧ qb ≠ some b
theorem ReadI.other {w w' : World} {v : Value} {zs : List Int} (h : ReadI w.heap.size w v zs) (hsz : w.heap.size ≤ w'.heap.size) (hb : ∀ b, v.ownBlock = some b → w'.heap[b]? = w.heap[b]?) : ReadI w'.heap.size w' v zs := by
 obtain ⟨hl, a, cap, rfl, hnil, hc⟩ := h
 refine ⟨hl, a, cap, rfl, hnil, hc.imp id ?_⟩
 rintro ⟨b, off, rfl, hB, hcell⟩
 exact ⟨b, off, rfl, by omega, fun i hi => by rw [World.cell?_of_block (w := w) (a := ⟨b, off + i, none⟩) (hb b rfl)]; exact hcell i hi⟩
theorem WordsAt.keep {w w' : World} {G H N : Nat} {qb qb' : Option Nat} {S : List Ar} (h : WordsAt w G H N qb S) (hsz : w.heap.size ≤ w'.heap.size) (hH : w'.heap[H]? = w.heap[H]?)
 (hb : ∀ b, b < w.heap.size → b ≠ G → b ≠ H → qb ≠ some b → w'.heap[b]? = w.heap[b]? ∧ qb' ≠ some b) : WordsAt w' G H N qb' S := by
 obtain ⟨cur, hh, hs, hc⟩ := h
 refine ⟨cur, by rw [hH]; exact hh, hs, fun j hj => ?_⟩
 obtain ⟨v, h1, h2, h3⟩ := hc j hj
 refine ⟨v, h1, h2.other hsz (fun b hbb => ?_), fun b hbb => ?_⟩
 · obtain ⟨q1, q2, q3, q4⟩ := h3 b hbb
   exact (hb b q1 q2 q3 q4).1
 · obtain ⟨q1, q2, q3, q4⟩ := h3 b hbb
   exact ⟨by omega, q2, q3, (hb b q1 q2 q3 q4).2⟩
theorem WordsAt.put {w : World} {G H N : Nat} {qb : Option Nat} {S : List Ar} (h : WordsAt w G H N qb S) {y l i : Int} {wd : List Int} {v : Value} (hy : 0 ≤ y) (hyN : y.toNat < N) (hvert : ∀ j, j < S.length → 0 ≤ (S.getD j d0).1.1)
 (hn : y ∉ vts S) (hr : ReadI w.heap.size w v wd) (hv : ∀ b, v.ownBlock = some b → b < w.heap.size ∧ b ≠ G ∧ b ≠ H ∧ qb ≠ some b) :
 WordsAt (w.setCell ⟨H, y.toNat, none⟩ v) G H N qb (S ++ [((y, l, i), wd)]) := by
 obtain ⟨cur, hh, hs, hc⟩ := h
 have hsz : (w.setCell ⟨H, y.toNat, none⟩ v).heap.size = w.heap.size := setCell_size _ _ _
 refine ⟨cur.setIfInBounds y.toNat v, heap_setCell_same w H y.toNat cur _ _ hh, by simpa using hs, fun j hj => ?_⟩
 have hoth : ∀ b, b ≠ H → (w.setCell ⟨H, y.toNat, none⟩ v).heap[b]? = w.heap[b]? := fun b hb => heap_setCell_other _ _ _ _ hb
 have hcase : j < S.length ∨ j = S.length := by simp at hj; omega
 rcases hcase with hj | rfl
 · rw [getD_left hj]
   obtain ⟨u, h1, h2, h3⟩ := hc j hj
   have hne : (S.getD j d0).1.1 ≠ y := fun he => hn (mem_vts.2 ⟨j, hj, he⟩)
   have h0 := hvert j hj
   refine ⟨u, by rw [Array.getElem?_setIfInBounds_ne (by omega)]; exact h1, h2.other (by omega) (fun b hb => hoth b (h3 b hb).2.2.1), fun b hb => by rw [hsz]; exact h3 b hb⟩
 · rw [getD_last]
   refine ⟨v, by rw [Array.getElem?_setIfInBounds_self_of_lt (by omega)], hr.other (by omega) (fun b hb => hoth b (hv b hb).2.2.1), fun b hb => by rw [hsz]; exact hv b hb⟩
theorem WordsAt.cell {w : World} {G H N : Nat} {qb : Option Nat} {S : List Ar} (h : WordsAt w G H N qb S) (j : Nat) (hj : j < S.length) : ∃ v, w.cell? ⟨H, (S.getD j d0).1.1.toNat, none⟩ = some v ∧ ReadI w.heap.size w v (S.getD j d0).2 := by
 obtain ⟨cur, hh, hs, hc⟩ := h
 obtain ⟨v, h1, h2, _⟩ := hc j hj
 exact ⟨v, by rw [cell_of_heap hh]; exact h1, h2⟩
theorem WordsAt.frozen {w : World} {G H N : Nat} {qb : Option Nat} {S : List Ar} (h : WordsAt w G H N qb S) (u : Nat) : w.frozen? ⟨H, u, none⟩ = false := by
 obtain ⟨cur, hh, hs, hc⟩ := h
 exact frozen_of_row w H u cur _ hh
theorem WordsAt.some {w : World} {G H N : Nat} {qb : Option Nat} {S : List Ar} (h : WordsAt w G H N qb S) (u : Nat) (hu : u < N) : ∃ v, w.cell? ⟨H, u, none⟩ = some v := by
 obtain ⟨cur, hh, hs, hc⟩ := h
 exact ⟨_, by rw [cell_of_heap hh]; exact Array.getElem?_eq_getElem (by omega)⟩
structure SearchSt (w : World) (base G H N : Nat) (oq : Value) (S : List Ar) : Prop where
 seen : BoolsN w G N (vts S)
 words : WordsAt w G H N oq.ownBlock S
 queue : OwnsI w base oq (vts S)
 qG : oq.ownBlock ≠ some G
 qH : oq.ownBlock ≠ some H
 GH : G ≠ H
 Hlt : H < w.heap.size
end Go.Proofs.YtgnomlcjikfdhaaGreat
namespace Go.Proofs.YtgnomlcjikfdhaaGreat
open Go.RowKit
set_option linter.unusedVariables false
set_option linter.unusedSimpArgs false
theorem infoBool : (Tryz.prog.info? 4).map (fun i => (i.zero, i.size, i.bytes)) = some (some (.bool false), 1, 1) := by kernel_rfl
theorem infoInts : (Tryz.prog.info? 33).map (fun i => (i.zero, i.size, i.bytes)) = some (some (.slice none 0 0), 1, 24) := by kernel_rfl
theorem fresh_row {w : World} {base g n : Nat} {T : TypeId} {z : Value} (h : w.ownsRow base T 1 (.slice (some ⟨g, 0, none⟩) n n) n (madeCells #[z] n).toList) :
 ∃ cur : Array Value, w.heap[g]? = some (.cells cur T (0, 0)) ∧ cur.size = n ∧ ∀ u : Nat, u < n → cur[u]? = some z := by
 obtain ⟨h1, ⟨h2, _⟩ | ⟨g', cap, cur, hv, hg, hh, hc1, hc2, hc3, hc4⟩⟩ := h
 · cases h2
 · simp only [Value.slice.injEq, Option.some.injEq, Addr.mk.injEq, and_true, true_and] at hv
   obtain ⟨rfl, rfl⟩ := hv
   refine ⟨cur, hh, by simpa using hc3, fun u hu => ?_⟩
   rw [toList_madeCells_one, Nat.mul_one] at hc4
   have : (cur.toList.take n)[u]? = some z := by rw [hc4, List.getElem?_replicate, if_pos hu]
   rw [List.getElem?_take, if_pos hu] at this
   rw [← Array.getElem?_toList]; exact this
theorem wpList_pushI_at {w0 : World} {ops : Array Oper} {rest : List Oper} {o : Oper} {a : Act} {Q : Exit → Act → World → Prop} (hgd : o.guard = none) (s x : Operand)
 (ho : o.op = .call { callee := .builtin .append, args := #[s, x], argTypes := #[33, 33] }) (base : Nat) (v : Value) (zs : List Int) (z : Int)
 (hs : a.eval s = v) (hx : a.eval x = .slice (some ⟨w0.heap.size, 0, none⟩) 1 1) (hown : OwnsI w0 base v zs) (hl : zs.length ≤ 1000000000) (hbase : base ≤ w0.heap.size)
 (h : ∀ v' w', OwnsI w' base v' (zs ++ [z]) → (w0.alloc (.cells #[.int .i64 z] 3)).grownBy w' v.ownBlock → (v'.ownBlock = v.ownBlock ∨ v'.ownBlock = some (w0.heap.size + 1)) → wpList Tryz.prog ops Q rest (a.put o.dst v') w') :
 wpList Tryz.prog ops Q (o :: rest) a (w0.alloc (.cells #[.int .i64 z] 3)) := by
 obtain ⟨i0, hi, hz0, hz1, hz2⟩ := info_parts infoInt
 refine wpList_append_own_at _ hgd s x 33 ho base 3 i0 (.int .i64 0) 1 8 Tryz.underlying33 hi hz0 hz1 hz2 rfl (by decide) v zs.length (zs.map iv) hs (World.ownsRow.alloc hown _) ⟨w0.heap.size, 0, none⟩ 1 1 [iv z] hx rfl (cell_one_new _ _ _) ?_ ?_ ?_ ?_ ?_
 · intro u hu
   simp at hu
   subst hu; rfl
 · unfold maxLen; omega
 · omega
 · simp; omega
 · intro v' w' ho' hg _ hw
   exact h v' w' (by unfold OwnsI; simpa using ho') hg (by simpa using hw)
theorem OwnsI.other {w w' : World} {base : Nat} {v : Value} {zs : List Int} (h : OwnsI w base v zs) (hb : ∀ k, v.ownBlock = some k → w'.heap[k]? = w.heap[k]?) : OwnsI w' base v zs := by
 obtain ⟨h1, h2 | ⟨g, cap, cur, rfl, hg, hh, hr⟩⟩ := h
 · exact ⟨h1, .inl h2⟩
 · exact ⟨h1, .inr ⟨g, cap, cur, rfl, hg, (hb g rfl).trans hh, hr⟩⟩
theorem OwnsI.form0 {w : World} {base : Nat} {v : Value} {zs : List Int} (h : OwnsI w base v zs) (h0 : 0 < zs.length) : ∃ g cap, v = .slice (some ⟨g, 0, none⟩) zs.length cap ∧ base ≤ g ∧ g < w.heap.size ∧ zs.length ≤ cap := by
 have hlt := World.ownsRow.lt h
 obtain ⟨h1, ⟨_, h2⟩ | ⟨g, cap, cur, rfl, hg, hh, hc, hr⟩⟩ := h
 · omega
 · exact ⟨g, cap, rfl, hg, (hlt g rfl).2, hc⟩
theorem SearchSt.below {w w' : World} {base G H N : Nat} {o : Value} {S : List Ar} (h : SearchSt w base G H N o S) (hb : Below w.heap.size w w') : SearchSt w' base G H N o S where
 seen := h.seen.keep (hb.block G h.seen.lt)
 words := h.words.keep hb.size (hb.block H h.Hlt) (fun b q1 q2 q3 q4 => ⟨hb.block b q1, q4⟩)
 queue := h.queue.other (fun k hk => hb.block k (World.ownsRow.lt h.queue k hk).2)
 qG := h.qG
 qH := h.qH
 GH := h.GH
 Hlt := Nat.lt_of_lt_of_le h.Hlt hb.size
theorem SearchSt.mid {w w7 v4 v5 : World} {base G H N yN : Nat} {o t : Value} {S : List Ar} {l i : Int} {W : List Int} (h : SearchSt w base G H N o S) (hw7 : w7 = w.setCell ⟨G, yN, none⟩ (.bool true))
 (hB : Below w7.heap.size w7 v4) (hown : OwnsI v4 w7.heap.size t W) (hWl : W.length ≤ 1000000) (hv5 : v5 = v4.setCell ⟨H, yN, none⟩ t) (hy : yN < N) (hn : (yN : Int) ∉ vts S) (hvert : ∀ j, j < S.length → 0 ≤ (S.getD j d0).1.1) :
 BoolsN v5 G N (vts (S ++ [(((yN : Int), l, i), W)])) ∧ WordsAt v5 G H N o.ownBlock (S ++ [(((yN : Int), l, i), W)]) ∧ OwnsI v5 base o (vts S) ∧ w.heap.size ≤ v5.heap.size ∧ Below w7.heap.size w7 v4 := by
 have hs7 : w7.heap.size = w.heap.size := by rw [hw7]; exact setCell_size _ _ _
 have hs5 : v5.heap.size = v4.heap.size := by rw [hv5]; exact setCell_size _ _ _
 have hG := h.seen.lt
 have hb7 : ∀ b, b ≠ G → w7.heap[b]? = w.heap[b]? := fun b hb => by rw [hw7]; exact heap_setCell_other _ _ _ _ hb
 have hseen7 : BoolsN w7 G N (vts (S ++ [(((yN : Int), l, i), W)])) := by
  rw [hw7]
  refine h.seen.set yN hy (fun u hu => ?_)
  rw [vts_more]
  constructor
  · rintro (h | h)
    · exact .inl h
    · exact .inr (by simp at h; omega)
  · rintro (h | h)
    · exact .inl h
    · exact .inr (by simp; omega)
 have hwords4 : WordsAt v4 G H N o.ownBlock S := h.words.keep (by have := hB.size; omega) (by rw [hB.block H (by have := h.Hlt; omega), hb7 H (Ne.symm h.GH)])
  (fun b q1 q2 q3 q4 => ⟨by rw [hB.block b (by omega), hb7 b q2], q4⟩)
 have hlt := World.ownsRow.lt hown
 have hrow := OwnsI.row hown (by omega)
 have hoth5 : ∀ b, b ≠ H → v5.heap[b]? = v4.heap[b]? := fun b hb => by rw [hv5]; exact heap_setCell_other _ _ _ _ hb
 refine ⟨?_, ?_, ?_, by have := hB.size; omega, hB⟩
 · exact (hseen7.keep (hB.block G (by omega))).keep (hoth5 G h.GH)
 · rw [hv5]
   have := hwords4.put (y := (yN : Int)) (l := l) (i := i) (wd := W) (v := t) (by omega) (by simpa using hy) hvert hn hrow.read (fun b hb => by
    have hq := hlt b hb
    refine ⟨hq.2, by omega, by have := h.Hlt; omega, fun he => ?_⟩
    have := (World.ownsRow.lt h.queue b he).2
    omega)
   simpa using this
 · refine h.queue.other (fun k hk => ?_)
   have hq := World.ownsRow.lt h.queue k hk
   rw [hoth5 k (fun he => h.qH (by rw [hk, he])), hB.block k (by omega), hb7 k (fun he => h.qG (by rw [hk, he]))]
theorem SearchSt.done {v5 v6 : World} {base G H N : Nat} {o o' : Value} {S T : List Ar} {y : Int} (hGH : G ≠ H) (hqG : o.ownBlock ≠ some G) (hqH : o.ownBlock ≠ some H) (hG : G < v5.heap.size) (hH : H < v5.heap.size)
 (h1 : BoolsN v5 G N (vts T)) (h2 : WordsAt v5 G H N o.ownBlock T) (hT : vts T = vts S ++ [y]) (hown : OwnsI v6 base o' (vts S ++ [y])) (hg : (v5.alloc (.cells #[.int .i64 y] 3)).grownBy v6 o.ownBlock) (hloc : o'.ownBlock = o.ownBlock ∨ o'.ownBlock = some (v5.heap.size + 1)) :
 SearchSt v6 base G H N o' T ∧ v5.heap.size + 1 ≤ v6.heap.size ∧ (∀ q, q < v5.heap.size → o.ownBlock ≠ some q → v6.heap[q]? = v5.heap[q]?) := by
 have hs : v5.heap.size + 1 ≤ v6.heap.size := by have := hg.size; simpa using this
 have hold : ∀ q, q < v5.heap.size → o.ownBlock ≠ some q → v6.heap[q]? = v5.heap[q]? := fun q hq hne => by
  rw [hg.block q (by simp; omega) (fun e => hne e.symm), heap_alloc_old _ _ hq]
 refine ⟨⟨?_, ?_, ?_, ?_, ?_, hGH, by omega⟩, hs, hold⟩
 · exact h1.keep (hold G hG hqG)
 · refine h2.keep (by omega) (hold H hH hqH) (fun b q1 q2 q3 q4 => ⟨hold b q1 q4, ?_⟩)
   rcases hloc with h | h
   · rw [h]; exact q4
   · rw [h]; simp; omega
 · rw [hT]; exact hown
 · rcases hloc with h | h
   · rw [h]; exact hqG
   · rw [h]; simp; omega
 · rcases hloc with h | h
   · rw [h]; exact hqH
   · rw [h]; simp; omega
end Go.Proofs.YtgnomlcjikfdhaaGreat
