/- Words, the model: PowerWord. -/
import Derived.Test.YtmafaglgegimfaaDoorWS1
import Derived.Maps.AppendAt
namespace Go.Proofs.YtmafaglgegimfaaDoor
open Go.RowKit
set_option linter.unusedVariables false

theorem OwnsI.later {w w' : World} {base B : Nat} {v : Value} {zs : List Int} (h : OwnsI w base v zs) (hb : Below B w w') (hB : w.heap.size ≤ B) : OwnsI w' base v zs := by
  obtain ⟨hl, h1 | ⟨g, cap, cur, hv, hg, hh, hr⟩⟩ := h
  · exact ⟨hl, .inl h1⟩
  · have hlt : g < w.heap.size := (Array.getElem?_eq_some_iff.1 hh).1
    exact ⟨hl, .inr ⟨g, cap, cur, hv, hg, by rw [hb.block g (by omega)]; exact hh, hr⟩⟩
theorem ReadI.blocks {B : Nat} {w w' : World} {v : Value} {zs : List Int} (h : ReadI B w v zs) (hb : ∀ k, k < B → w'.heap[k]? = w.heap[k]?) : ReadI B w' v zs := by
  obtain ⟨hl, a, cap, hv, hnil, hc⟩ := h
  refine ⟨hl, a, cap, hv, hnil, hc.imp id ?_⟩
  rintro ⟨b, off, ha, hB, hcell⟩
  exact ⟨b, off, ha, hB, fun i hi => by rw [World.cell?_of_block (hb b hB)]; exact hcell i hi⟩
/-- The slice's own block lies outside [lo, hi). -/
def Outside (lo hi : Nat) (v : Value) : Prop := ∀ g, v.ownBlock = some g → g < lo ∨ hi ≤ g
/-- out = append(out, x...), and what else stays. -/
theorem wpList_pushAllI_at {w0 : World} {ops : Array Oper} {rest : List Oper} {o : Oper} {a : Act} {Q : Exit → Act → World → Prop} (hgd : o.guard = none) (s x : Operand)
    (ho : o.op = .call { callee := .builtin .append, args := #[s, x], argTypes := #[31, 31] }) (base : Nat) (v vx : Value) (zs ys : List Int) (B lo hi : Nat)
    (hs : a.eval s = v) (hx : a.eval x = vx) (hown : OwnsI w0 base v zs) (hread : ReadI B w0 vx ys) (hl : zs.length + ys.length ≤ 1000000000) (hbase : base ≤ w0.heap.size) (hhi : hi ≤ w0.heap.size) (hout : Outside lo hi v)
    (h : ∀ v' w', OwnsI w' base v' (zs ++ ys) → Below base w0 w' → Outside lo hi v' → (∀ k, lo ≤ k → k < hi → w'.heap[k]? = w0.heap[k]?) → wpList Tryd.prog ops Q rest (a.put o.dst v') w') :
    wpList Tryd.prog ops Q (o :: rest) a w0 := by
  obtain ⟨i0, hi0, hz0, hz1, hz2⟩ := info_parts infoInt
  obtain ⟨_, ax, cap, rfl, ⟨hnil, _⟩, hr⟩ := hread
  rcases ax with _ | ad
  · have hy : ys = [] := by
      rcases hr with h0 | ⟨b, off, ha, _⟩
      · exact h0
      · cases ha
    subst hy
    rw [hnil rfl] at hx
    refine wpList_append_own_none hgd s x 31 ho base 3 i0 1 Tryd.underlying31 hi0 v zs.length (zs.map iv) hs hown hx ?_
    exact h v w0 (by rw [List.append_nil]; exact hown) (Below.refl _ _) hout (fun _ _ _ => rfl)
  · refine wpList_append_own_at w0 hgd s x 31 ho base 3 i0 (.int .i64 0) 1 8 Tryd.underlying31 hi0 hz0 hz1 hz2 rfl (by decide) v zs.length (zs.map iv) hs hown ad ys.length cap (ys.map iv) hx (by simp) ?_ ?_ ?_ ?_ hbase ?_
    · intro j u hj
      rw [List.getElem?_map] at hj
      obtain ⟨y, hy, rfl⟩ := Option.map_eq_some_iff.1 hj
      have hjl : j < ys.length := (List.getElem?_eq_some_iff.1 hy).1
      rcases hr with h0 | ⟨b, off, ha, hB, hc⟩
      · rw [h0] at hjl; simp at hjl
      · cases ha
        have hcj := hc j hjl
        rw [List.getD_eq_getElem?_getD, hy] at hcj
        by_cases hj0 : j = 0
        · subst hj0; simpa [Addr.add, iv] using hcj
        · simpa [Addr.add, hj0, iv] using hcj
    · intro u hu
      obtain ⟨y, _, rfl⟩ := List.mem_map.1 hu
      rfl
    · unfold maxLen; omega
    · omega
    · intro v' w' ho' hg _ hat
      refine h v' w' (by unfold OwnsI; simpa using ho') ((Below.refl base w0).grown hg hbase (fun k hk => (World.ownsRow.lt hown k hk).1)) ?_ ?_
      · intro g hgv
        rcases hat with e | e
        · exact hout g (by rw [← e]; exact hgv)
        · rw [e] at hgv
          cases hgv
          exact .inr hhi
      · intro k h1 h2
        refine hg.block k (by omega) (fun e => ?_)
        rcases hout k e.symm with h3 | h3 <;> omega

end Go.Proofs.YtmafaglgegimfaaDoor
