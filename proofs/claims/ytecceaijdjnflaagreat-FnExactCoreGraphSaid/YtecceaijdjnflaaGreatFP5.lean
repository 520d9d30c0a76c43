/- The search by breadth, the program: lettersInOrder, searchFrom. -/
import Derived.Test.YtecceaijdjnflaaGreatFB
import Derived.Test.YtecceaijdjnflaaGreatFP3
import Derived.Laws.MakeOwn
namespace Go.Proofs.YtecceaijdjnflaaGreat
open Go.RowKit Go.Maps
set_option linter.unusedVariables false
set_option linter.unusedSimpArgs false

abbrev OwnsA (w : World) (base : Nat) (v : Value) (es : List Ed) : Prop := OwnsS 90 3 w base v es.length (flatE es)
theorem infoArr : (Tryz.prog.info? 90).map (fun i => (i.zero, i.size, i.bytes)) = some (some (.agg #[.int .i64 0, .int .i64 0, .int .i64 0]), 3, 24) := by kernel_rfl
/-- out = append(out, arrival). -/
theorem wpList_pushA {w0 : World} {ops : Array Oper} {rest : List Oper} {o : Oper} {a : Act} {Q : Exit → Act → World → Prop} (hgd : o.guard = none) (s x : Operand)
    (ho : o.op = .call { callee := .builtin .append, args := #[s, x], argTypes := #[87, 87] }) (base : Nat) (v : Value) (es : List Ed) (f l t : Int)
    (hs : a.eval s = v) (hx : a.eval x = .slice (some ⟨w0.heap.size, 0, none⟩) 1 1) (hown : OwnsA w0 base v es) (hl : es.length ≤ 1000000000) (hbase : base ≤ w0.heap.size)
    (h : ∀ v' w', OwnsA w' base v' (es ++ [(f, l, t)]) → Below base w0 w' → wpList Tryz.prog ops Q rest (a.put o.dst v') w') :
    wpList Tryz.prog ops Q (o :: rest) a (w0.alloc (.cells #[.int .i64 f, .int .i64 l, .int .i64 t] 90)) := by
  obtain ⟨i0, hi, hz0, hz1, hz2⟩ := info_parts infoArr
  refine wpList_append_own _ hgd s x 87 ho base 90 i0 _ 3 24 Tryz.underlying87 hi hz0 hz1 hz2 rfl (by decide) v es.length ((flatE es).map iv) hs (World.ownsRow.alloc hown _) ⟨w0.heap.size, 0, none⟩ 1 1 [iv f, iv l, iv t] hx rfl ?_ ?_ ?_ ?_ ?_ ?_
  · intro j u hj
    have hk := heap_alloc_new w0 (.cells #[.int .i64 f, .int .i64 l, .int .i64 t] 90)
    rw [addr_plus, Nat.zero_add]
    have c := cell_of_heap hk j
    match j, hj with
    | 0, hj => simp at hj; subst hj; simp [iv]
    | 1, hj => simp at hj; subst hj; simp [iv]
    | 2, hj => simp at hj; subst hj; simp [iv]
  · intro u hu
    simp at hu
    rcases hu with rfl | rfl | rfl <;> rfl
  · unfold maxLen; omega
  · omega
  · simp; omega
  · intro v' w' ho' hg _
    refine h v' w' (by unfold OwnsA OwnsS; rw [flatE_append]; simpa [flatE] using ho') ?_
    exact ((Below.refl base w0).alloc hbase _).grown hg (by simp; omega) (fun k hk => (World.ownsRow.lt hown k hk).1)
theorem readA {w : World} {base B : Nat} {v : Value} {F : List Ed} (h : OwnsA w base v F) (hl : F.length ≤ 1000) (hB : w.heap.size ≤ B) : ReadE B w v F :=
  ((OwnsS.row h (by omega)).read).mono hB
theorem getD_map1 {S : List Ar} (j : Nat) : (S.map (·.1)).getD j e0 = (S.getD j d0).1 := by
  rw [List.getD_eq_getElem?_getD, List.getElem?_map, List.getD_eq_getElem?_getD]
  cases S[j]? <;> rfl
end Go.Proofs.YtecceaijdjnflaaGreat
