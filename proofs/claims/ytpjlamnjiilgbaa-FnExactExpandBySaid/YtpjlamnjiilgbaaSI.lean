/- Appending to slices of ints of the call's own. -/
import Derived.Test.YtpjlamnjiilgbaaLI
import Derived.WalkSmall
import Derived.Laws.AppendOwnNone
namespace Go.Proofs.Ytpjlamnjiilgbaa
open Go.RowKit
set_option linter.unusedVariables false

/-- v is a slice of the call's own (in a block from base on) that holds the ints zs. -/
def OwnsI (w : World) (base : Nat) (v : Value) (zs : List Int) : Prop := w.ownsRow base 3 1 v zs.length (zs.map iv)
theorem OwnsI.lit (w : World) : OwnsI (w.alloc (.cells #[] 3)) w.heap.size (.slice (some ⟨w.heap.size, 0, none⟩) 0 0) [] := World.ownsRow_lit w #[] 0 (Nat.le_refl _) (Nat.zero_le _) rfl
theorem OwnsI.row {w : World} {base : Nat} {v : Value} {zs : List Int} (h : OwnsI w base v zs) (hl : zs.length ≤ 140737488355328) : RowI w base w.heap.size v zs := RowI.of_owns h hl
theorem OwnsI.drewN {w : World} {base : Nat} {v : Value} {zs : List Int} (h : OwnsI w base v zs) (n : Nat) : OwnsI (w.drewN n) base v zs := h
theorem OwnsI.mono {w : World} {base base' : Nat} {v : Value} {zs : List Int} (h : OwnsI w base v zs) (hb : base' ≤ base) : OwnsI w base' v zs := by
  obtain ⟨h1, h2⟩ := h
  refine ⟨h1, h2.imp id ?_⟩
  rintro ⟨g, cap, cur, a, b, c⟩
  exact ⟨g, cap, cur, a, by omega, c⟩
/-- out = append(out, z). -/
theorem wpList_pushI {w0 : World} {ops : Array Oper} {rest : List Oper} {o : Oper} {a : Act} {Q : Exit → Act → World → Prop} (hgd : o.guard = none) (s x : Operand)
    (ho : o.op = .call { callee := .builtin .append, args := #[s, x], argTypes := #[23, 23] }) (base : Nat) (v : Value) (zs : List Int) (z : Int)
    (hs : a.eval s = v) (hx : a.eval x = .slice (some ⟨w0.heap.size, 0, none⟩) 1 1) (hown : OwnsI w0 base v zs) (hl : zs.length ≤ 1000000000) (hbase : base ≤ w0.heap.size)
    (h : ∀ v' w', OwnsI w' base v' (zs ++ [z]) → Below base w0 w' → wpList Try.prog ops Q rest (a.put o.dst v') w') :
    wpList Try.prog ops Q (o :: rest) a (w0.alloc (.cells #[.int .i64 z] 3)) := by
  obtain ⟨i0, hi, hz0, hz1, hz2⟩ := info_parts infoInt
  refine wpList_append_own _ hgd s x 23 ho base 3 i0 (.int .i64 0) 1 8 Try.underlying23 hi hz0 hz1 hz2 rfl (by decide) v zs.length (zs.map iv) hs (World.ownsRow.alloc hown _) ⟨w0.heap.size, 0, none⟩ 1 1 [iv z] hx rfl ?_ ?_ ?_ ?_ ?_ ?_
  · intro j u hj
    match j, hj with
    | 0, hj =>
      simp at hj
      subst hj
      simp [Addr.add, iv]
  · intro u hu
    simp at hu
    subst hu
    rfl
  · unfold maxLen; omega
  · omega
  · simp; omega
  · intro v' w' ho' hg _
    refine h v' w' (by unfold OwnsI; simpa using ho') ?_
    exact ((Below.refl base w0).alloc hbase _).grown hg (by simp; omega) (fun k hk => (World.ownsRow.lt hown k hk).1)
/-- out = append(out, x...). -/
theorem wpList_pushAllI {w0 : World} {ops : Array Oper} {rest : List Oper} {o : Oper} {a : Act} {Q : Exit → Act → World → Prop} (hgd : o.guard = none) (s x : Operand)
    (ho : o.op = .call { callee := .builtin .append, args := #[s, x], argTypes := #[23, 23] }) (base : Nat) (v vx : Value) (zs ys : List Int) (B : Nat)
    (hs : a.eval s = v) (hx : a.eval x = vx) (hown : OwnsI w0 base v zs) (hread : ReadI B w0 vx ys) (hl : zs.length + ys.length ≤ 1000000000) (hbase : base ≤ w0.heap.size)
    (h : ∀ v' w', OwnsI w' base v' (zs ++ ys) → Below base w0 w' → wpList Try.prog ops Q rest (a.put o.dst v') w') :
    wpList Try.prog ops Q (o :: rest) a w0 := by
  obtain ⟨i0, hi, hz0, hz1, hz2⟩ := info_parts infoInt
  obtain ⟨_, ax, cap, rfl, ⟨hnil, _⟩, hr⟩ := hread
  rcases ax with _ | ad
  · have hy : ys = [] := by
      rcases hr with h0 | ⟨b, off, ha, _⟩
      · exact h0
      · cases ha
    subst hy
    rw [hnil rfl] at hx
    refine wpList_append_own_none hgd s x 23 ho base 3 i0 1 Try.underlying23 hi v zs.length (zs.map iv) hs hown hx ?_
    exact h v w0 (by rw [List.append_nil]; exact hown) (Below.refl _ _)
  · refine wpList_append_own w0 hgd s x 23 ho base 3 i0 (.int .i64 0) 1 8 Try.underlying23 hi hz0 hz1 hz2 rfl (by decide) v zs.length (zs.map iv) hs hown ad ys.length cap (ys.map iv) hx (by simp) ?_ ?_ ?_ ?_ hbase ?_
    · intro j u hj
      rw [List.getElem?_map] at hj
      obtain ⟨y, hy, rfl⟩ := Option.map_eq_some_iff.1 hj
      have hjl : j < ys.length := (List.getElem?_eq_some_iff.1 hy).1
      rcases hr with h0 | ⟨b, off, ha, hB, hc⟩
      · rw [h0] at hjl; simp at hjl
      · cases ha
        have hcj := hc j hjl
        rw [List.getD_eq_getElem?_getD, hy] at hcj
        by_cases hj0 : j = 0
        · subst hj0; simpa [Addr.add, iv] using hcj
        · simpa [Addr.add, hj0, iv] using hcj
    · intro u hu
      obtain ⟨y, _, rfl⟩ := List.mem_map.1 hu
      rfl
    · unfold maxLen; omega
    · omega
    · intro v' w' ho' hg _
      refine h v' w' (by unfold OwnsI; simpa using ho') ?_
      exact (Below.refl base w0).grown hg hbase (fun k hk => (World.ownsRow.lt hown k hk).1)
end Go.Proofs.Ytpjlamnjiilgbaa
