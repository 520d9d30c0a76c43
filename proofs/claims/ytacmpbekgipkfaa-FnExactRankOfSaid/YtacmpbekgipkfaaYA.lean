/- Subgroups, the program: IsSubgroup, TrivialSubgroup, WholeGroup, IsTrivial, IsWhole (tools/ya.py). -/
import Derived.Test.YtacmpbekgipkfaaZN
import Derived.Test.YtacmpbekgipkfaaRP
import Derived.Test.YtacmpbekgipkfaaQF
import Derived.Test.YtacmpbekgipkfaaGS12
import Derived.Test.YtacmpbekgipkfaaMS
import Derived.Deep.LoopGhost
import Derived.Deep.Cut
import Derived.Maps.AppendAt
namespace Go.Proofs.Ytacmpbekgipkfaa
open Go.RowKit
set_option linter.unusedVariables false
set_option linter.unusedSimpArgs false

set_option maxHeartbeats 3200000 in
theorem progIsSub (w : World) (r s : Int) (v : Value) (es : List Ed) (h : ReadE w.heap.size w v es) (hl : es.length ≤ 10000000) :
    Calls Try.prog 50 #[.agg #[.int .i64 r, .int .i64 s, v]] w (LwBool w (isCo r s es)) := by
  obtain ⟨a, cap, rfl, hnc⟩ := h.form
  obtain ⟨n, hn⟩ : ∃ n, n = es.length := ⟨_, rfl⟩
  rw [← hn] at hl hnc ⊢
  rw [← hn] at h
  obtain ⟨w1, hw1⟩ : ∃ w1, w1 = w.alloc (.cells #[.int .i64 r, .int .i64 s, .slice a n cap] 29) := ⟨_, rfl⟩
  have hb1 : Below w.heap.size w w1 := by rw [hw1]; exact (Below.refl _ _).alloc (Nat.le_refl _) _
  have hs1 : w.heap.size < w1.heap.size := by rw [hw1]; simp
  obtain ⟨g0, g1, g2⟩ := box3 hw1
  have hco := progIsCo w1 r s (.slice a n cap) es (by have := (h.below hb1).mono hb1.size; exact this) (by omega)
  obtain ⟨B, hB⟩ : ∃ B, B = isCo r s es := ⟨_, rfl⟩
  rw [← hB] at hco ⊢
  replace hB := hidI hB
  replace hn := hidI hn
  replace h := hidI h
  replace hw1 := hidI hw1
  go_enter Try.func50, Try.ntmps50
  go_wp2_with fail
  rw [← hw1.out]
  refine hco.mono ?_
  rintro e w2 ⟨rfl, hb2⟩
  clear hco g0 g1 g2
  have hbq := hb1.trans (hb2.mono hb1.size)
  go_wp2
  go_ret
  exact ⟨ret_bool rfl, hbq⟩
theorem OwnsE_form {w : World} {base : Nat} {v : Value} {E : List Ed} (h : OwnsE w base v E) : ∃ a c, v = .slice a E.length c := by
  obtain ⟨_, ⟨h1, h2⟩ | ⟨g, cap, cur, h1, _⟩⟩ := h
  · exact ⟨none, 0, by rw [h1, h2]⟩
  · exact ⟨_, _, h1⟩
theorem OwnsA_keep {w w' : World} {base : Nat} {v : Value} {E : List Ed} (h : OwnsE w base v E) (hb : ∀ k, v.ownBlock = some k → w'.heap[k]? = w.heap[k]?) : OwnsE w' base v E := by
  obtain ⟨h1, h2 | ⟨g, cap, cur, rfl, hg, hh, hr⟩⟩ := h
  · exact ⟨h1, .inl h2⟩
  · exact ⟨h1, .inr ⟨g, cap, cur, rfl, hg, (hb g rfl).trans hh, hr⟩⟩
/-- out = append(out, edge), and where the new row lies. -/
theorem wpList_pushE_at {w0 : World} {ops : Array Oper} {rest : List Oper} {o : Oper} {a : Act} {Q : Exit → Act → World → Prop} (hgd : o.guard = none) (s x : Operand)
    (ho : o.op = .call { callee := .builtin .append, args := #[s, x], argTypes := #[26, 26] }) (base : Nat) (v : Value) (es : List Ed) (f l t : Int)
    (hs : a.eval s = v) (hx : a.eval x = .slice (some ⟨w0.heap.size, 0, none⟩) 1 1) (hown : OwnsE w0 base v es) (hl : es.length ≤ 1000000000) (hbase : base ≤ w0.heap.size)
    (h : ∀ v' w', OwnsE w' base v' (es ++ [(f, l, t)]) → (w0.alloc (.cells #[.int .i64 f, .int .i64 l, .int .i64 t] 44)).grownBy w' v.ownBlock → (v'.ownBlock = v.ownBlock ∨ v'.ownBlock = some (w0.heap.size + 1)) → wpList Try.prog ops Q rest (a.put o.dst v') w') :
    wpList Try.prog ops Q (o :: rest) a (w0.alloc (.cells #[.int .i64 f, .int .i64 l, .int .i64 t] 44)) := by
  obtain ⟨i0, hi, hz0, hz1, hz2⟩ := info_parts infoEdge
  refine wpList_append_own_at _ hgd s x 26 ho base 44 i0 _ 3 24 Try.underlying26 hi hz0 hz1 hz2 rfl (by decide) v es.length ((flatE es).map iv) hs (World.ownsRow.alloc hown _) ⟨w0.heap.size, 0, none⟩ 1 1 [iv f, iv l, iv t] hx rfl ?_ ?_ ?_ ?_ ?_ ?_
  · intro j u hj
    have hk := heap_alloc_new w0 (.cells #[.int .i64 f, .int .i64 l, .int .i64 t] 44)
    rw [addr_plus, Nat.zero_add]
    have c := cell_of_heap hk j
    match j, hj with
    | 0, hj => simp at hj; subst hj; simp [iv]
    | 1, hj => simp at hj; subst hj; simp [iv]
    | 2, hj => simp at hj; subst hj; simp [iv]
  · intro u hu
    simp at hu
    rcases hu with rfl | rfl | rfl <;> rfl
  · unfold maxLen; omega
  · omega
  · simp; omega
  · intro v' w' ho' hg _ hw
    refine h v' w' (by unfold OwnsE OwnsS; rw [flatE_append]; simpa [flatE] using ho') hg (by simpa using hw)
/-- A graph that grows in its box X: its row of edges lies in another block. -/
def GrSt (w : World) (X base : Nat) (r sz : Int) (v : Value) (E : List Ed) : Prop :=
  w.heap[X]? = some (.cells #[.int .i64 r, .int .i64 sz, v] 29 (0, 0)) ∧ OwnsE w base v E ∧ v.ownBlock ≠ some X
theorem GrSt.form {w : World} {X base : Nat} {r sz : Int} {v : Value} {E : List Ed} (h : GrSt w X base r sz v E) : ∃ a c, v = .slice a E.length c := by
  obtain ⟨_, ⟨_, ⟨h1, h2⟩ | ⟨g, cap, cur, h1, _⟩⟩, _⟩ := h
  · exact ⟨none, 0, by rw [h1, h2]⟩
  · exact ⟨_, _, h1⟩
theorem GrSt.mst {w : World} {X base : Nat} {r sz : Int} {v : Value} {E : List Ed} (h : GrSt w X base r sz v E) (hX : X < w.heap.size) (hb : base ≤ w.heap.size) (hl : E.length ≤ 4000000000000) : MSt w X base r sz v E := by
  obtain ⟨h1, h2, h3⟩ := h
  refine ⟨h1, ?_⟩
  have h4 := OwnsS.row h2 hl
  obtain ⟨q0, q1, ⟨rfl, q3⟩ | ⟨g, off, cap, cur, rfl, q3, q4, q5, q6, ⟨rfl, q7⟩, q8⟩⟩ := h4
  · exact ⟨w.heap.size, w.heap.size, ⟨q0, q1, .inl ⟨rfl, q3⟩⟩, hb, Nat.le_refl _, .inr hX⟩
  · have hne : g ≠ X := fun e => h3 (by rw [← e]; rfl)
    exact ⟨g, g + 1, ⟨q0, q1, .inr ⟨g, 0, cap, cur, rfl, Nat.le_refl _, by omega, q5, q6, ⟨rfl, q7⟩, q8⟩⟩, q3, by omega, by omega⟩
end Go.Proofs.Ytacmpbekgipkfaa
