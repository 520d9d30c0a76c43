/- The search by breadth, the program: lettersInOrder, searchFrom. -/
import Derived.Test.YtiacnjbgobppaaaFB
import Derived.Test.YtiacnjbgobppaaaFP3
import Derived.Laws.MakeOwn
namespace Go.Proofs.Ytiacnjbgobppaaa
open Go.RowKit Go.Maps
set_option linter.unusedVariables false
set_option linter.unusedSimpArgs false

/-- out = append(out, x, y). -/
theorem wpList_push2I {w0 : World} {ops : Array Oper} {rest : List Oper} {o : Oper} {a : Act} {Q : Exit → Act → World → Prop} (hgd : o.guard = none) (s x : Operand)
    (ho : o.op = .call { callee := .builtin .append, args := #[s, x], argTypes := #[33, 33] }) (base : Nat) (v : Value) (zs : List Int) (y z : Int)
    (hs : a.eval s = v) (hx : a.eval x = .slice (some ⟨w0.heap.size, 0, none⟩) 2 2) (hown : OwnsI w0 base v zs) (hl : zs.length ≤ 1000000000) (hbase : base ≤ w0.heap.size)
    (h : ∀ v' w', OwnsI w' base v' (zs ++ [y, z]) → Below base w0 w' → wpList Try.prog ops Q rest (a.put o.dst v') w') :
    wpList Try.prog ops Q (o :: rest) a (w0.alloc (.cells #[.int .i64 y, .int .i64 z] 3)) := by
  obtain ⟨i0, hi, hz0, hz1, hz2⟩ := info_parts infoInt
  refine wpList_append_own _ hgd s x 33 ho base 3 i0 (.int .i64 0) 1 8 Try.underlying33 hi hz0 hz1 hz2 rfl (by decide) v zs.length (zs.map iv) hs (World.ownsRow.alloc hown _) ⟨w0.heap.size, 0, none⟩ 2 2 [iv y, iv z] hx rfl ?_ ?_ ?_ ?_ ?_ ?_
  · intro j u hj
    have hk := heap_alloc_new w0 (.cells #[.int .i64 y, .int .i64 z] 3)
    rw [addr_plus, Nat.zero_add]
    have c := cell_of_heap hk j
    match j, hj with
    | 0, hj => simp at hj; subst hj; simp [iv]
    | 1, hj => simp at hj; subst hj; simp [iv]
  · intro u hu
    simp at hu
    rcases hu with rfl | rfl <;> rfl
  · unfold maxLen; omega
  · omega
  · simp; omega
  · intro v' w' ho' hg _
    refine h v' w' (by unfold OwnsI; simpa using ho') ?_
    exact ((Below.refl base w0).alloc hbase _).grown hg (by simp; omega) (fun k hk => (World.ownsRow.lt hown k hk).1)
set_option maxHeartbeats 1600000 in
theorem progLets (w : World) (rN : Nat) (hr : rN ≤ 3) : Calls Try.prog 63 #[.int .i64 (rN : Int)] w (IntsRet w (letsN rN)) := by
  obtain ⟨i0, hi, hz0, hz1, hz2⟩ := info_parts infoInt
  have h2r : IntKind.i64.wrap (2 * (rN : Int)) = 2 * (rN : Int) := IntWalk.i64_in _ (by omega)
  go_enter Try.func63, Try.ntmps63
  go_wp2_with (at_make; go_must (refine wpList_make_own _ rfl _ _ 33 rfl w.heap.size 3 i0 (.int .i64 0) 1 Try.underlying33 hi hz0 hz1 .i64 .i64 _ (2 * rN) rfl rfl (by omega) ?c3 ?c4 ?c5 ?_))
  case c3 => rw [hz2]; omega
  case c4 => unfold maxLen; omega
  case c5 => exact Nat.le_refl _
  intro w1 hown hg
  have hown0 : Hid (OwnsI w1 w.heap.size (.slice (some ⟨w.heap.size, 0, none⟩) 0 (2 * rN)) (letsN 0)) := hidI hown
  have hb0 := hidI ((Below.refl w.heap.size w).grown hg (Nat.le_refl _) (fun k hk => by cases hk))
  clear hown hg
  go_wp2
  go_loopg [3, 4, 9] rN (fun g o u i wr => ∃ k : Nat, k + g = rN ∧ i = .int .i64 k ∧ Hid (OwnsI wr w.heap.size o (letsN k)) ∧ Hid (Below w.heap.size w wr))
  case atStart => exact ⟨0, by omega, rfl, hown0, hb0⟩
  case round =>
    clear hown0 hb0
    obtain ⟨k, hk, rfl, hown, hb⟩ := hrel
    obtain ⟨a3, m3, c3, rfl⟩ : ∃ a m c, u3 = Value.slice a m c := by
      obtain ⟨_, ⟨h1, _⟩ | ⟨g, cap, cur, h1, _⟩⟩ := hown.out <;> exact ⟨_, _, _, h1⟩
    by_cases hlt : k < rN
    · have hki : (k : Int) < (rN : Int) := by omega
      have hlen := letsN_length k
      have hnx : letsN (k + 1) = letsN k ++ [((k : Int) + 1), -((k : Int) + 1)] := rfl
      have hneg : IntKind.i64.wrap (-((k : Int) + 1)) = -((k : Int) + 1) := IntWalk.i64_in _ (by omega)
      replace hnx := hidI hnx
      replace hk := hidI hk
      replace hlen := hidI hlen
      go_wp2_with (at_builtin; go_must (refine wpList_push2I rfl _ _ rfl w.heap.size _ (letsN k) _ _ rfl rfl (by exact hown.out) (by have := hlen.out; omega) hb.out.size ?_))
      intro v' w' hown' hb'
      have hown2 := hidI (show OwnsI w' w.heap.size v' (letsN (k + 1)) by rw [hnx.out]; exact hown')
      replace hb' := hidI (hb.out.trans hb')
      clear hown hb hown'
      go_wp2
      go_roundg (rN - (k + 1))
      case rel => exact ⟨k + 1, by have := hk.out; omega, by go_num, hown2, hb'⟩
      case measure => have := hk.out; omega
    · obtain rfl : k = rN := by omega
      have hki : ¬ (k : Int) < (k : Int) := by omega
      have hr : IntsRet w (letsN k) (.returned (.slice a3 m3 c3)) wr := ⟨_, rfl, hown.out.row (by rw [letsN_length]; omega), hb.out⟩
      replace hr := hidI hr
      replace hk := hidI hk
      go_wp2
      go_ret
      exact hr.out
abbrev OwnsA (w : World) (base : Nat) (v : Value) (es : List Ed) : Prop := OwnsS 75 3 w base v es.length (flatE es)
theorem infoArr : (Try.prog.info? 75).map (fun i => (i.zero, i.size, i.bytes)) = some (some (.agg #[.int .i64 0, .int .i64 0, .int .i64 0]), 3, 24) := by kernel_rfl
/-- out = append(out, arrival). -/
theorem wpList_pushA {w0 : World} {ops : Array Oper} {rest : List Oper} {o : Oper} {a : Act} {Q : Exit → Act → World → Prop} (hgd : o.guard = none) (s x : Operand)
    (ho : o.op = .call { callee := .builtin .append, args := #[s, x], argTypes := #[71, 71] }) (base : Nat) (v : Value) (es : List Ed) (f l t : Int)
    (hs : a.eval s = v) (hx : a.eval x = .slice (some ⟨w0.heap.size, 0, none⟩) 1 1) (hown : OwnsA w0 base v es) (hl : es.length ≤ 1000000000) (hbase : base ≤ w0.heap.size)
    (h : ∀ v' w', OwnsA w' base v' (es ++ [(f, l, t)]) → Below base w0 w' → wpList Try.prog ops Q rest (a.put o.dst v') w') :
    wpList Try.prog ops Q (o :: rest) a (w0.alloc (.cells #[.int .i64 f, .int .i64 l, .int .i64 t] 75)) := by
  obtain ⟨i0, hi, hz0, hz1, hz2⟩ := info_parts infoArr
  refine wpList_append_own _ hgd s x 71 ho base 75 i0 _ 3 24 Try.underlying71 hi hz0 hz1 hz2 rfl (by decide) v es.length ((flatE es).map iv) hs (World.ownsRow.alloc hown _) ⟨w0.heap.size, 0, none⟩ 1 1 [iv f, iv l, iv t] hx rfl ?_ ?_ ?_ ?_ ?_ ?_
  · intro j u hj
    have hk := heap_alloc_new w0 (.cells #[.int .i64 f, .int .i64 l, .int .i64 t] 75)
    rw [addr_plus, Nat.zero_add]
    have c := cell_of_heap hk j
    match j, hj with
    | 0, hj => simp at hj; subst hj; simp [iv]
    | 1, hj => simp at hj; subst hj; simp [iv]
    | 2, hj => simp at hj; subst hj; simp [iv]
  · intro u hu
    simp at hu
    rcases hu with rfl | rfl | rfl <;> rfl
  · unfold maxLen; omega
  · omega
  · simp; omega
  · intro v' w' ho' hg _
    refine h v' w' (by unfold OwnsA OwnsS; rw [flatE_append]; simpa [flatE] using ho') ?_
    exact ((Below.refl base w0).alloc hbase _).grown hg (by simp; omega) (fun k hk => (World.ownsRow.lt hown k hk).1)
theorem readA {w : World} {base B : Nat} {v : Value} {F : List Ed} (h : OwnsA w base v F) (hl : F.length ≤ 1000) (hB : w.heap.size ≤ B) : ReadE B w v F :=
  ((OwnsS.row h (by omega)).read).mono hB
theorem getD_map1 {S : List Ar} (j : Nat) : (S.map (·.1)).getD j e0 = (S.getD j d0).1 := by
  rw [List.getD_eq_getElem?_getD, List.getElem?_map, List.getD_eq_getElem?_getD]
  cases S[j]? <;> rfl
end Go.Proofs.Ytiacnjbgobppaaa
