/- append(s, x...) of ints within a region that is walked operation by operation, and where the new row lies. -/
import Derived.Test.YtacmpbekgipkfaaQB
import Derived.Laws.AppendOwn
import Derived.Laws.AppendOwnNone
import Derived.Maps.AppendAt
namespace Go.Proofs.Ytacmpbekgipkfaa
open Go.RowKit
set_option linter.unusedVariables false
set_option linter.unusedSimpArgs false

/-- append(s, x...) of ints, within a region, and where the new row lies. -/
theorem step_pushAllI_at {w0 : World} {o : Oper} {a : Act} {K : Act → World → Prop} {Q : Exit → Act → World → Prop} (s x : Operand)
    (ho : o.op = .call { callee := .builtin .append, args := #[s, x], argTypes := #[36, 36] }) (base : Nat) (v vx : Value) (zs ys : List Int) (B : Nat)
    (hs : a.eval s = v) (hx : a.eval x = vx) (hown : OwnsI w0 base v zs) (hread : ReadI B w0 vx ys) (hl : zs.length + ys.length ≤ 1000000000) (hbase : base ≤ w0.heap.size)
    (h : ∀ v' w', OwnsI w' base v' (zs ++ ys) → w0.grownBy w' v.ownBlock → (v'.ownBlock = v.ownBlock ∨ v'.ownBlock = some w0.heap.size) → K (a.put o.dst v') w') :
    Oper.wp Try.prog o a w0 K Q := by
  obtain ⟨i0, hi, hz0, hz1, hz2⟩ := info_parts infoInt
  obtain ⟨_, ax, cap, rfl, ⟨hnil, _⟩, hr⟩ := hread
  rcases ax with _ | ad
  · have hy : ys = [] := by
      rcases hr with h0 | ⟨b, off, ha, _⟩
      · exact h0
      · cases ha
    subst hy
    rw [hnil rfl] at hx
    have hrun := run_append_owned_none (P := Try.prog) (w := w0) base 36 o.type 3 i0 1 Try.underlying36 hi v zs.length (zs.map iv) hown
    unfold Oper.wp
    simp [execOp, ho, resolve, invoke, builtin, hs, hx, hrun, Result.andThen]
    exact h v w0 (by rw [List.append_nil]; exact hown) ⟨rfl, rfl, rfl, Nat.le_refl _, fun _ _ _ => rfl⟩ (.inl rfl)
  · obtain ⟨v', w', hrun, h2, h3, h4, h5⟩ := run_append_own_at (P := Try.prog) w0 base 36 o.type 3 i0 (.int .i64 0) 1 8 Try.underlying36 hi hz0 hz1 hz2 rfl (by decide) v zs.length (zs.map iv) hown ad ys.length cap (ys.map iv) (by simp) (by
      intro j u hj
      rw [List.getElem?_map] at hj
      obtain ⟨y, hy, rfl⟩ := Option.map_eq_some_iff.1 hj
      have hjl : j < ys.length := (List.getElem?_eq_some_iff.1 hy).1
      rcases hr with h0 | ⟨b, off, ha, hB, hc⟩
      · rw [h0] at hjl; simp at hjl
      · cases ha
        have hcj := hc j hjl
        rw [List.getD_eq_getElem?_getD, hy] at hcj
        rw [addr_plus]
        simpa [iv] using hcj) (by
      intro u hu
      obtain ⟨y, _, rfl⟩ := List.mem_map.1 hu
      rfl) (by unfold maxLen; omega) (by omega) hbase
    unfold Oper.wp execOp
    simp only [ho, resolve, invoke, builtin, Sem.run_bind, Sem.run_pure, Result.andThen_ok, List.map_toArray, List.map_cons, List.map_nil, hs, hx, hrun]
    exact h v' w' (by unfold OwnsI; simpa using h2) h3 h5
end Go.Proofs.Ytacmpbekgipkfaa
