/- Slices of edges that a call made: push, push all. -/
import Derived.Test.YtdeofaimgldklaaHK
import Derived.Test.YtdeofaimgldklaaGS3
import Derived.Laws.AppendOwn
import Derived.Laws.AppendOwnNone
namespace Go.Proofs.Ytdeofaimgldklaa
open Go.RowKit
set_option linter.unusedVariables false
set_option linter.unusedSimpArgs false

abbrev OwnsE (w : World) (base : Nat) (v : Value) (es : List Ed) : Prop := OwnsS 68 3 w base v es.length (flatE es)
abbrev edV (e : Ed) : Value := .agg #[.int .i64 e.1, .int .i64 e.2.1, .int .i64 e.2.2]
theorem OwnsE.litE (w : World) : OwnsE (w.alloc (.cells #[] 68)) w.heap.size (.slice (some ⟨w.heap.size, 0, none⟩) 0 0) [] := OwnsS.lit w
/-- out = append(out, e). -/
theorem wpList_pushE {w0 : World} {ops : Array Oper} {rest : List Oper} {o : Oper} {a : Act} {Q : Exit → Act → World → Prop} (hgd : o.guard = none) (s x : Operand)
    (ho : o.op = .call { callee := .builtin .append, args := #[s, x], argTypes := #[30, 30] }) (base : Nat) (v : Value) (es : List Ed) (f l t : Int)
    (hs : a.eval s = v) (hx : a.eval x = .slice (some ⟨w0.heap.size, 0, none⟩) 1 1) (hown : OwnsE w0 base v es) (hl : es.length ≤ 1000000000) (hbase : base ≤ w0.heap.size)
    (h : ∀ v' w', OwnsE w' base v' (es ++ [(f, l, t)]) → Below base w0 w' → wpList Try.prog ops Q rest (a.put o.dst v') w') :
    wpList Try.prog ops Q (o :: rest) a (w0.alloc (.cells #[.int .i64 f, .int .i64 l, .int .i64 t] 68)) := by
  obtain ⟨i0, hi, hz0, hz1, hz2⟩ := info_parts infoEdge
  refine wpList_append_own _ hgd s x 30 ho base 68 i0 _ 3 24 Try.underlying30 hi hz0 hz1 hz2 rfl (by decide) v es.length ((flatE es).map iv) hs (World.ownsRow.alloc hown _) ⟨w0.heap.size, 0, none⟩ 1 1 [iv f, iv l, iv t] hx rfl ?_ ?_ ?_ ?_ ?_ ?_
  · intro j u hj
    have hk := heap_alloc_new w0 (.cells #[.int .i64 f, .int .i64 l, .int .i64 t] 68)
    rw [addr_plus, Nat.zero_add]
    have c := cell_of_heap hk j
    match j, hj with
    | 0, hj => simp at hj; subst hj; simp [iv]
    | 1, hj => simp at hj; subst hj; simp [iv]
    | 2, hj => simp at hj; subst hj; simp [iv]
  · intro u hu
    simp at hu
    rcases hu with rfl | rfl | rfl <;> rfl
  · unfold maxLen; omega
  · omega
  · simp; omega
  · intro v' w' ho' hg _
    refine h v' w' (by unfold OwnsE OwnsS; rw [flatE_append]; simpa [flatE] using ho') ?_
    exact ((Below.refl base w0).alloc hbase _).grown hg (by simp; omega) (fun k hk => (World.ownsRow.lt hown k hk).1)
/-- out = append(out, x...). -/
theorem wpList_pushAllE {w0 : World} {ops : Array Oper} {rest : List Oper} {o : Oper} {a : Act} {Q : Exit → Act → World → Prop} (hgd : o.guard = none) (s x : Operand)
    (ho : o.op = .call { callee := .builtin .append, args := #[s, x], argTypes := #[30, 30] }) (base : Nat) (v vx : Value) (es fs : List Ed) (B : Nat)
    (hs : a.eval s = v) (hx : a.eval x = vx) (hown : OwnsE w0 base v es) (hread : ReadE B w0 vx fs) (hl : es.length + fs.length ≤ 1000000000) (hbase : base ≤ w0.heap.size)
    (h : ∀ v' w', OwnsE w' base v' (es ++ fs) → Below base w0 w' → wpList Try.prog ops Q rest (a.put o.dst v') w') :
    wpList Try.prog ops Q (o :: rest) a w0 := by
  obtain ⟨i0, hi, hz0, hz1, hz2⟩ := info_parts infoEdge
  obtain ⟨hzl, _, ax, cap, rfl, ⟨hnil, _⟩, hr⟩ := hread
  rcases ax with _ | ad
  · have hy : fs = [] := by
      rcases hr with h0 | ⟨b, off, ha, _⟩
      · exact List.eq_nil_of_length_eq_zero h0
      · cases ha
    subst hy
    rw [hnil rfl] at hx
    refine wpList_append_own_none hgd s x 30 ho base 68 i0 3 Try.underlying30 hi v es.length ((flatE es).map iv) hs hown hx ?_
    exact h v w0 (by rw [List.append_nil]; exact hown) (Below.refl _ _)
  · refine wpList_append_own w0 hgd s x 30 ho base 68 i0 _ 3 24 Try.underlying30 hi hz0 hz1 hz2 rfl (by decide) v es.length ((flatE es).map iv) hs hown ad fs.length cap ((flatE fs).map iv) hx (by simpa using hzl) ?_ ?_ ?_ ?_ hbase ?_
    · intro j u hj
      rw [List.getElem?_map] at hj
      obtain ⟨y, hy, rfl⟩ := Option.map_eq_some_iff.1 hj
      have hjl : j < (flatE fs).length := (List.getElem?_eq_some_iff.1 hy).1
      rcases hr with h0 | ⟨b, off, ha, hB, hc⟩
      · rw [hzl, h0] at hjl; omega
      · cases ha
        have hcj := hc j (by omega)
        rw [List.getD_eq_getElem?_getD, hy] at hcj
        rw [addr_plus]
        simpa [iv] using hcj
    · intro u hu
      obtain ⟨y, _, rfl⟩ := List.mem_map.1 hu
      rfl
    · unfold maxLen; omega
    · omega
    · intro v' w' ho' hg _
      refine h v' w' (by unfold OwnsE OwnsS; rw [flatE_append, List.length_append, List.map_append]; exact ho') ?_
      exact (Below.refl base w0).grown hg hbase (fun k hk => (World.ownsRow.lt hown k hk).1)
end Go.Proofs.Ytdeofaimgldklaa
