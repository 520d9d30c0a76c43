/- Loops, the program: the growing list of walks and the loops among them. -/
import Derived.Test.YtmecdboeckmmfaaFP9
import Derived.Test.YtmecdboeckmmfaaFLm
import Derived.Test.YtmecdboeckmmfaaLS4
import Derived.Laws.AppendOwnNone
namespace Go.Proofs.Ytmecdboeckmmfaa
open Go.RowKit Go.Maps
set_option linter.unusedVariables false
set_option linter.unusedSimpArgs false

theorem RowI.one {w : World} {lo hi : Nat} {v : Value} {zs : List Int} (h : RowI w lo hi v zs) : v.oneCell' = true := by
  obtain ⟨_, ⟨rfl, _⟩ | ⟨g, off, cap, cur, rfl, _⟩⟩ := h <;> rfl
theorem prW_one : ∀ {P : List (Value × Wa)}, (∀ p ∈ P, p.1.oneCell' = true) → ∀ u ∈ prW P, u.oneCell' = true := by
  intro P
  induction P with
  | nil => intro _ u hu; cases hu
  | cons p P ih =>
    intro h u hu
    rw [prW, List.mem_cons, List.mem_cons] at hu
    rcases hu with rfl | rfl | hu
    · exact h p List.mem_cons_self
    · rfl
    · exact ih (fun q hq => h q (List.mem_cons_of_mem _ hq)) u hu
theorem OwnsP.other {w w' : World} {base : Nat} {v : Value} {P : List (Value × Wa)} (h : OwnsP w base v P) (hb : ∀ k, v.ownBlock = some k → w'.heap[k]? = w.heap[k]?) : OwnsP w' base v P := by
  obtain ⟨h1, h2 | ⟨g, cap, cur, rfl, hg, hh, hr⟩⟩ := h
  · exact ⟨h1, .inl h2⟩
  · exact ⟨h1, .inr ⟨g, cap, cur, rfl, hg, (hb g rfl).trans hh, hr⟩⟩
/-- walks = append(walks, more...). -/
theorem wpList_pushAllP_at {w0 : World} {ops : Array Oper} {rest : List Oper} {o : Oper} {a : Act} {Q : Exit → Act → World → Prop} (hgd : o.guard = none) (s x : Operand)
    (ho : o.op = .call { callee := .builtin .append, args := #[s, x], argTypes := #[66, 66] }) (base B2 : Nat) (v v2 : Value) (P P2 : List (Value × Wa))
    (hs : a.eval s = v) (hx : a.eval x = v2) (hown : OwnsP w0 base v P) (hown2 : OwnsP w0 B2 v2 P2) (h1 : ∀ p ∈ P2, p.1.oneCell' = true) (hl : P.length + P2.length ≤ 1000000000) (hbase : base ≤ w0.heap.size)
    (h : ∀ v' w', OwnsP w' base v' (P ++ P2) → w0.grownBy w' v.ownBlock → (v'.ownBlock = v.ownBlock ∨ v'.ownBlock = some w0.heap.size) → wpList Try.prog ops Q rest (a.put o.dst v') w') :
    wpList Try.prog ops Q (o :: rest) a w0 := by
  obtain ⟨i0, hi, hz0, hz1, hz2⟩ := info_parts infoWa
  have hown2' := hown2
  obtain ⟨_, ⟨rfl, h0⟩ | ⟨g, cap, cur, rfl, _⟩⟩ := hown2'
  · have hP2 : P2 = [] := List.length_eq_zero_iff.1 h0
    subst hP2
    refine wpList_append_own_none hgd s x 66 ho base 65 i0 2 Try.underlying66 hi v P.length (prW P) hs hown hx ?_
    exact h v w0 (by rw [List.append_nil]; exact hown) ⟨rfl, rfl, rfl, Nat.le_refl _, fun _ _ _ => rfl⟩ (.inl rfl)
  · have hcs := hown2.cells (g := g) rfl
    refine wpList_append_own_at _ hgd s x 66 ho base 65 i0 _ 2 32 Try.underlying66 hi hz0 hz1 hz2 rfl (by decide) v P.length (prW P) hs hown ⟨g, 0, none⟩ P2.length cap (prW P2) hx (prW_length P2) (fun j u hj => hcs j u hj) (prW_one h1) ?_ ?_ hbase ?_
    · unfold maxLen; omega
    · omega
    · intro v' w' ho' hg _ hw
      exact h v' w' (by unfold OwnsP; rw [prW_append, List.length_append]; exact ho') hg hw
/-- The same, for a region walked operation by operation. -/
theorem step_pushAllP_at {w0 : World} {o : Oper} {a : Act} {K : Act → World → Prop} {Q : Exit → Act → World → Prop} (s x : Operand)
    (ho : o.op = .call { callee := .builtin .append, args := #[s, x], argTypes := #[66, 66] }) (base B2 : Nat) (v v2 : Value) (P P2 : List (Value × Wa))
    (hs : a.eval s = v) (hx : a.eval x = v2) (hown : OwnsP w0 base v P) (hown2 : OwnsP w0 B2 v2 P2) (h1 : ∀ p ∈ P2, p.1.oneCell' = true) (hl : P.length + P2.length ≤ 1000000000) (hbase : base ≤ w0.heap.size)
    (h : ∀ v' w', OwnsP w' base v' (P ++ P2) → w0.grownBy w' v.ownBlock → (v'.ownBlock = v.ownBlock ∨ v'.ownBlock = some w0.heap.size) → K (a.put o.dst v') w') :
    Oper.wp Try.prog o a w0 K Q := by
  obtain ⟨i0, hi, hz0, hz1, hz2⟩ := info_parts infoWa
  have hown2' := hown2
  obtain ⟨_, ⟨rfl, h0⟩ | ⟨g, cap, cur, rfl, _⟩⟩ := hown2'
  · have hP2 : P2 = [] := List.length_eq_zero_iff.1 h0
    subst hP2
    have hrun := run_append_owned_none (P := Try.prog) (w := w0) base 66 o.type 65 i0 2 Try.underlying66 hi v P.length (prW P) hown
    unfold Oper.wp
    simp [execOp, ho, resolve, invoke, builtin, hs, hx, hrun, Result.andThen]
    exact h v w0 (by rw [List.append_nil]; exact hown) ⟨rfl, rfl, rfl, Nat.le_refl _, fun _ _ _ => rfl⟩ (.inl rfl)
  · have hcs := hown2.cells (g := g) rfl
    obtain ⟨v', w', hrun, h2, h3, h4, h5⟩ := run_append_own_at (P := Try.prog) w0 base 66 o.type 65 i0 _ 2 32 Try.underlying66 hi hz0 hz1 hz2 rfl (by decide) v P.length (prW P) hown ⟨g, 0, none⟩ P2.length cap (prW P2) (prW_length P2) (fun j u hj => hcs j u hj) (prW_one h1) (by unfold maxLen; omega) (by omega) hbase
    unfold Oper.wp execOp
    simp only [ho, resolve, invoke, builtin, Sem.run_bind, Sem.run_pure, Result.andThen_ok, List.map_toArray, List.map_cons, List.map_nil, hs, hx, hrun]
    exact h v' w' (by unfold OwnsP; rw [prW_append, List.length_append]; exact h2) h3 h5
/-- P: the walks, in vw; U: those of them that are loops, in vl. -/
def LoopSt (w : World) (lo : Nat) (vw vl : Value) (P U : List (Value × Wa)) : Prop :=
  OwnsP w lo vw P ∧ ElemsW w lo vw P ∧ OwnsW w lo vl (U.map (·.1)) ∧ U.Sublist P ∧ (∀ p ∈ P, ∀ b, p.1.ownBlock = some b → vl.ownBlock ≠ some b) ∧ (∀ b, vw.ownBlock = some b → vl.ownBlock ≠ some b)
theorem ElemsW.lt {w : World} {lo : Nat} {v : Value} {P : List (Value × Wa)} (h : ElemsW w lo v P) : ∀ p ∈ P, ∀ b, p.1.ownBlock = some b → lo ≤ b ∧ b < w.heap.size := fun p hp b hpb => by
  rcases (h.1 p hp).1.block with ⟨e1, _⟩ | ⟨c, e1, e2, e3, _⟩
  · rw [e1] at hpb; cases hpb
  · rw [e1] at hpb; cases hpb; exact ⟨e2, e3⟩
theorem ElemsW.keep2 {w w' : World} {lo : Nat} {v : Value} {P : List (Value × Wa)} (h : ElemsW w lo v P) (hsz : w.heap.size ≤ w'.heap.size) (hb : ∀ p ∈ P, ∀ b, p.1.ownBlock = some b → b < w.heap.size → w'.heap[b]? = w.heap[b]?) : ElemsW w' lo v P := by
  refine ⟨fun p hp => ⟨?_, (h.1 p hp).2⟩, h.2⟩
  rcases (h.1 p hp).1.block with ⟨e1, e2⟩ | ⟨c, e1, e2, e3, e4⟩
  · rw [e1, e2]; exact ⟨by simp, .inl ⟨rfl, rfl⟩⟩
  · exact (e4.keep fun k q1 q2 => by
      obtain rfl : k = c := by omega
      exact hb p hp k e1 e3).wide e2 (by omega)
theorem LoopSt.below {w w' : World} {lo : Nat} {vw vl : Value} {P U : List (Value × Wa)} (h : LoopSt w lo vw vl P U) (hb : Below w.heap.size w w') : LoopSt w' lo vw vl P U := by
  obtain ⟨h1, h2, h3, h4, h5, h6⟩ := h
  exact ⟨h1.other fun k hk => hb.block k (World.ownsRow.lt h1 k hk).2, h2.keep2 hb.size fun p hp b _ hlt => hb.block b hlt, OwnsW.other h3 fun k hk => hb.block k (World.ownsRow.lt h3 k hk).2, h4, h5, h6⟩
theorem LoopSt.loop {w w' : World} {X : Obj} {lo : Nat} {vw vl vl' : Value} {P U : List (Value × Wa)} {p : Value × Wa} (h : LoopSt w lo vw vl P U) (hsub : (U ++ [p]).Sublist P) (hown : OwnsW w' lo vl' (U.map (·.1) ++ [p.1])) (hg : (w.alloc X).grownBy w' vl.ownBlock)
    (hloc : vl'.ownBlock = vl.ownBlock ∨ vl'.ownBlock = some (w.heap.size + 1)) : LoopSt w' lo vw vl' P (U ++ [p]) := by
  obtain ⟨h1, h2, h3, h4, h5, h6⟩ := h
  have hsz : w.heap.size + 1 ≤ w'.heap.size := by have := hg.size; simpa using this
  have hk : ∀ b, b < w.heap.size → vl.ownBlock ≠ some b → w'.heap[b]? = w.heap[b]? := fun b q1 q2 => by
    rw [hg.block b (by simp; omega) (fun e => q2 e.symm), heap_alloc_old _ _ q1]
  refine ⟨h1.other fun k hk' => hk k (World.ownsRow.lt h1 k hk').2 (h6 k hk'), h2.keep2 (by omega) fun q hq b hb hlt => hk b hlt (h5 q hq b hb), by rw [List.map_append]; exact hown, hsub, fun q hq b hb => ?_, fun b hb => ?_⟩
  · rcases hloc with e | e
    · rw [e]; exact h5 q hq b hb
    · rw [e]; have := h2.lt q hq b hb; simp; omega
  · rcases hloc with e | e
    · rw [e]; exact h6 b hb
    · rw [e]; have := (World.ownsRow.lt h1 b hb).2; simp; omega
theorem LoopSt.more {w w1 w2 : World} {lo : Nat} {vw vw' vl v2 : Value} {P P2 U : List (Value × Wa)} (h : LoopSt w lo vw vl P U) (hlo : lo ≤ w.heap.size) (hb : Below w.heap.size w w1) (hE2 : ElemsW w1 w.heap.size v2 P2)
    (hown : OwnsP w2 lo vw' (P ++ P2)) (hg : w1.grownBy w2 vw.ownBlock) (hloc : vw'.ownBlock = vw.ownBlock ∨ vw'.ownBlock = some w1.heap.size) : LoopSt w2 lo vw' vl (P ++ P2) U := by
  have hlw := fun b hb => (World.ownsRow.lt h.1 b hb).2
  have hll := fun b hb => (World.ownsRow.lt h.2.2.1 b hb).2
  have hPlt := h.2.1.lt
  obtain ⟨h1, h2, h3, h4, h5, h6⟩ := h.below hb
  have hsz := hg.size
  have hsz1 := hb.size
  have h2lt := hE2.lt
  have hk : ∀ b, b < w1.heap.size → vw.ownBlock ≠ some b → w2.heap[b]? = w1.heap[b]? := fun b q1 q2 => hg.block b q1 (fun e => q2 e.symm)
  have hA := h2.keep2 hsz fun p hp b hb hlt => hk b hlt ((h2.1 p hp).2 b hb)
  have hB := hE2.keep2 hsz fun p hp b hb hlt => hk b hlt (fun e => by have := hlw b e; have := (h2lt p hp b hb).1; omega)
  refine ⟨hown, ⟨fun p hp => ?_, ?_⟩, OwnsW.other h3 fun k hk' => hk k (World.ownsRow.lt h3 k hk').2 (fun e => h6 k e hk'), h4.trans (List.sublist_append_left _ _), fun p hp b hpb => ?_, fun b hb => ?_⟩
  · rcases List.mem_append.1 hp with hp | hp
    · refine ⟨(hA.1 p hp).1, fun b hpb => ?_⟩
      rcases hloc with e | e
      · rw [e]; exact (h2.1 p hp).2 b hpb
      · rw [e]; have := (h2.lt p hp b hpb).2; simp; omega
    · refine ⟨(hB.1 p hp).1.wide hlo (Nat.le_refl _), fun b hpb => ?_⟩
      rcases hloc with e | e
      · intro e2; rw [e] at e2; have := hlw b e2; have := (h2lt p hp b hpb).1; omega
      · rw [e]; have := (h2lt p hp b hpb).2; simp; omega
  · rw [List.pairwise_append]
    exact ⟨h2.2, hE2.2, fun p hp q hq b c hb' hc => by have := (hPlt p hp b hb').2; have := (h2lt q hq c hc).1; omega⟩
  · rcases List.mem_append.1 hp with hp | hp
    · exact h5 p hp b hpb
    · intro e; have := hll b e; have := (h2lt p hp b hpb).1; omega
  · rcases hloc with e | e
    · exact h6 b (by rw [← e]; exact hb)
    · intro e2; rw [e] at hb; cases hb; have := hll _ e2; omega
theorem getD_mapv {U : List (Value × Wa)} {i : Nat} (hi : i < U.length) : (U.map (·.1)).getD i undef = U[i].1 ∧ (U.map (·.2.1)).getD i [] = U[i].2.1 := by
  constructor <;> rw [List.getD_eq_getElem?_getD, List.getElem?_map, List.getElem?_eq_getElem hi] <;> rfl
theorem LoopSt.done {w : World} {lo : Nat} {vw vl : Value} {P U : List (Value × Wa)} (h : LoopSt w lo vw vl P U) (hl : U.length ≤ 1000000000) : RowSS w lo w.heap.size vl (U.map (·.1)) (U.map (·.2.1)) := by
  obtain ⟨h1, h2, h3, h4, h5, h6⟩ := h
  have hpw := List.pairwise_iff_getElem.1 (h2.2.sublist h4)
  refine OwnsW.rowSS h3 (Nat.le_refl _) (Nat.le_refl _) (by simp) (by simpa using hl) (fun i b hi hb => ?_) (fun i hi => ?_) (fun i j b hi hj hne hb => ?_)
  · rw [List.length_map] at hi
    rw [(getD_mapv hi).1] at hb
    exact h5 _ (h4.subset (List.getElem_mem hi)) b hb
  · rw [List.length_map] at hi
    rw [(getD_mapv hi).1, (getD_mapv hi).2]
    exact (h2.1 _ (h4.subset (List.getElem_mem hi))).1
  · rw [List.length_map] at hi hj
    rw [(getD_mapv hi).1] at hb
    rw [(getD_mapv hj).1]
    intro hc
    rcases Nat.lt_or_ge i j with h | h
    · have := hpw i j hi hj h b b hb hc; omega
    · have := hpw j i hj hi (by omega) b b hc hb; omega
end Go.Proofs.Ytmecdboeckmmfaa
