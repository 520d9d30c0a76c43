/- Graphs, the model: l4Copy. -/
import Derived.Test.YtiacnjbgobppaaaGS5
import Derived.Deep.RegionHeld3
namespace Go.Proofs.Ytiacnjbgobppaaa
open Go.RowKit
set_option linter.unusedVariables false
set_option linter.unusedSimpArgs false

/-- out = append(out, x...), inside a region. -/
theorem step_pushAllE {w0 : World} {o : Oper} {a : Act} {K : Act → World → Prop} {Q : Exit → Act → World → Prop} (s x : Operand)
    (ho : o.op = .call { callee := .builtin .append, args := #[s, x], argTypes := #[27, 27] }) (base : Nat) (v vx : Value) (es fs : List Ed) (B : Nat)
    (hs : a.eval s = v) (hx : a.eval x = vx) (hown : OwnsE w0 base v es) (hread : ReadE B w0 vx fs) (hl : es.length + fs.length ≤ 1000000000) (hbase : base ≤ w0.heap.size)
    (h : ∀ v' w', OwnsE w' base v' (es ++ fs) → Below base w0 w' → K (a.put o.dst v') w') :
    Oper.wp Try.prog o a w0 K Q := by
  obtain ⟨i0, hi, hz0, hz1, hz2⟩ := info_parts infoEdge
  obtain ⟨hzl, _, ax, cap, rfl, ⟨hnil, _⟩, hr⟩ := hread
  rcases ax with _ | ad
  · have hy : fs = [] := by
      rcases hr with h0 | ⟨b, off, ha, _⟩
      · exact List.eq_nil_of_length_eq_zero h0
      · cases ha
    subst hy
    rw [hnil rfl] at hx
    have hrun := run_append_owned_none (P := Try.prog) (w := w0) base 27 o.type 53 i0 3 Try.underlying27 hi v es.length ((flatE es).map iv) hown
    unfold Oper.wp
    simp [execOp, ho, resolve, invoke, builtin, hs, hx, hrun, Result.andThen]
    exact h v w0 (by rw [List.append_nil]; exact hown) (Below.refl _ _)
  · refine wp_append_own w0 s x 27 ho base 53 i0 _ 3 24 Try.underlying27 hi hz0 hz1 hz2 rfl (by decide) v es.length ((flatE es).map iv) hs hown ad fs.length cap ((flatE fs).map iv) hx (by simpa using hzl) ?_ ?_ ?_ ?_ hbase ?_
    · intro j u hj
      rw [List.getElem?_map] at hj
      obtain ⟨y, hy, rfl⟩ := Option.map_eq_some_iff.1 hj
      have hjl : j < (flatE fs).length := (List.getElem?_eq_some_iff.1 hy).1
      rcases hr with h0 | ⟨b, off, ha, hB, hc⟩
      · rw [hzl, h0] at hjl; omega
      · cases ha
        have hcj := hc j (by omega)
        rw [List.getD_eq_getElem?_getD, hy] at hcj
        rw [addr_plus]
        simpa [iv] using hcj
    · intro u hu
      obtain ⟨y, _, rfl⟩ := List.mem_map.1 hu
      rfl
    · unfold maxLen; omega
    · omega
    · intro v' w' ho' hg _
      refine h v' w' (by unfold OwnsE OwnsS; rw [flatE_append, List.length_append, List.map_append]; exact ho') ?_
      exact (Below.refl base w0).grown hg hbase (fun k hk => (World.ownsRow.lt hown k hk).1)
end Go.Proofs.Ytiacnjbgobppaaa
