/- Slices of Fold that a call made: push, push all. (tools/flat.py) -/
import Derived.Test.YtdeofaimgldklaaHK
import Derived.Test.YtdeofaimgldklaaHFE
import Derived.Laws.AppendOwn
import Derived.Laws.AppendOwnNone
import Derived.Maps.AppendAt
namespace Go.Proofs.Ytdeofaimgldklaa
open Go.RowKit
set_option linter.unusedVariables false
set_option linter.unusedSimpArgs false

abbrev OwnsF (w : World) (base : Nat) (v : Value) (es : List tupF) : Prop := OwnsS 27 2 w base v es.length (flatF es)
abbrev valF (e : tupF) : Value := .agg #[.int .i64 e.1, .int .i64 e.2]
theorem OwnsF.litF (w : World) : OwnsF (w.alloc (.cells #[] 27)) w.heap.size (.slice (some ⟨w.heap.size, 0, none⟩) 0 0) [] := OwnsS.lit w
/-- out = append(out, e). -/
theorem wpList_pushF {w0 : World} {ops : Array Oper} {rest : List Oper} {o : Oper} {a : Act} {Q : Exit → Act → World → Prop} (hgd : o.guard = none) (s x : Operand)
    (ho : o.op = .call { callee := .builtin .append, args := #[s, x], argTypes := #[45, 45] }) (base : Nat) (v : Value) (es : List tupF) (x0 x1 : Int)
    (hs : a.eval s = v) (hx : a.eval x = .slice (some ⟨w0.heap.size, 0, none⟩) 1 1) (hown : OwnsF w0 base v es) (hl : es.length ≤ 4000000000000) (hbase : base ≤ w0.heap.size)
    (h : ∀ v' w', OwnsF w' base v' (es ++ [(x0, x1)]) → Below base w0 w' → wpList Try.prog ops Q rest (a.put o.dst v') w') :
    wpList Try.prog ops Q (o :: rest) a (w0.alloc (.cells #[.int .i64 x0, .int .i64 x1] 27)) := by
  obtain ⟨i0, hi, hz0, hz1, hz2⟩ := info_parts infoFold
  refine wpList_append_own _ hgd s x 45 ho base 27 i0 _ 2 16 Try.underlying45 hi hz0 hz1 hz2 rfl (by decide) v es.length ((flatF es).map iv) hs (World.ownsRow.alloc hown _) ⟨w0.heap.size, 0, none⟩ 1 1 [iv x0, iv x1] hx rfl ?_ ?_ ?_ ?_ ?_ ?_
  · intro j u hj
    have hk := heap_alloc_new w0 (.cells #[.int .i64 x0, .int .i64 x1] 27)
    rw [addr_plus, Nat.zero_add]
    have c := cell_of_heap hk j
    match j, hj with
    | 0, hj => simp at hj; subst hj; simp [iv]
    | 1, hj => simp at hj; subst hj; simp [iv]
  · intro u hu
    simp at hu
    rcases hu with rfl | rfl <;> rfl
  · unfold maxLen; omega
  · omega
  · simp; omega
  · intro v' w' ho' hg _
    refine h v' w' (by unfold OwnsF OwnsS; rw [flatF_append]; simpa [flatF] using ho') ?_
    exact ((Below.refl base w0).alloc hbase _).grown hg (by simp; omega) (fun k hk => (World.ownsRow.lt hown k hk).1)
/-- The same, and where the new row lies. -/
theorem wpList_pushF_at {w0 : World} {ops : Array Oper} {rest : List Oper} {o : Oper} {a : Act} {Q : Exit → Act → World → Prop} (hgd : o.guard = none) (s x : Operand)
    (ho : o.op = .call { callee := .builtin .append, args := #[s, x], argTypes := #[45, 45] }) (base : Nat) (v : Value) (es : List tupF) (x0 x1 : Int)
    (hs : a.eval s = v) (hx : a.eval x = .slice (some ⟨w0.heap.size, 0, none⟩) 1 1) (hown : OwnsF w0 base v es) (hl : es.length ≤ 4000000000000) (hbase : base ≤ w0.heap.size)
    (h : ∀ v' w', OwnsF w' base v' (es ++ [(x0, x1)]) → (w0.alloc (.cells #[.int .i64 x0, .int .i64 x1] 27)).grownBy w' v.ownBlock → (v'.ownBlock = v.ownBlock ∨ v'.ownBlock = some (w0.heap.size + 1)) → wpList Try.prog ops Q rest (a.put o.dst v') w') :
    wpList Try.prog ops Q (o :: rest) a (w0.alloc (.cells #[.int .i64 x0, .int .i64 x1] 27)) := by
  obtain ⟨i0, hi, hz0, hz1, hz2⟩ := info_parts infoFold
  refine wpList_append_own_at _ hgd s x 45 ho base 27 i0 _ 2 16 Try.underlying45 hi hz0 hz1 hz2 rfl (by decide) v es.length ((flatF es).map iv) hs (World.ownsRow.alloc hown _) ⟨w0.heap.size, 0, none⟩ 1 1 [iv x0, iv x1] hx rfl ?_ ?_ ?_ ?_ ?_ ?_
  · intro j u hj
    have hk := heap_alloc_new w0 (.cells #[.int .i64 x0, .int .i64 x1] 27)
    rw [addr_plus, Nat.zero_add]
    have c := cell_of_heap hk j
    match j, hj with
    | 0, hj => simp at hj; subst hj; simp [iv]
    | 1, hj => simp at hj; subst hj; simp [iv]
  · intro u hu
    simp at hu
    rcases hu with rfl | rfl <;> rfl
  · unfold maxLen; omega
  · omega
  · simp; omega
  · intro v' w' ho' hg _ hw
    exact h v' w' (by unfold OwnsF OwnsS; rw [flatF_append]; simpa [flatF] using ho') hg (by simpa using hw)
end Go.Proofs.Ytdeofaimgldklaa
