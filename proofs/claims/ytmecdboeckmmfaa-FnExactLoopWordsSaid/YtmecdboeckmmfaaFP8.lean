/- Loops, the program: longerWalks. -/
import Derived.Test.YtmecdboeckmmfaaFL
import Derived.Test.YtmecdboeckmmfaaLET
import Derived.Test.YtmecdboeckmmfaaFM
import Derived.Test.YtmecdboeckmmfaaCC
import Derived.Test.YtmecdboeckmmfaaLS3
namespace Go.Proofs.Ytmecdboeckmmfaa
open Go.RowKit Go.Maps
set_option linter.unusedVariables false
set_option linter.unusedSimpArgs false

/-- The cells of a row of walks: each a slice and an int. -/
def prW : List (Value × Wa) → List Value
  | [] => []
  | p :: r => p.1 :: .int .i64 p.2.2 :: prW r
theorem prW_append : ∀ (P R : List (Value × Wa)), prW (P ++ R) = prW P ++ prW R := by
  intro P
  induction P with
  | nil => intro R; rfl
  | cons p P ih => intro R; simp [prW, ih]
theorem prW_length : ∀ P : List (Value × Wa), (prW P).length = P.length * 2 := by
  intro P
  induction P with
  | nil => rfl
  | cons p P ih => simp [prW, ih]; omega
abbrev OwnsP (w : World) (base : Nat) (v : Value) (P : List (Value × Wa)) : Prop := w.ownsRow base 65 2 v P.length (prW P)
theorem infoWa : (Try.prog.info? 65).map (fun i => (i.zero, i.size, i.bytes)) = some (some (.agg #[.slice none 0 0, .int .i64 0]), 2, 32) := by kernel_rfl
/-- The letters of each walk lie in a block of their own, each later than the ones before, none of them the row's. -/
def ElemsW (w : World) (lo : Nat) (v : Value) (P : List (Value × Wa)) : Prop :=
  (∀ p ∈ P, RowI w lo w.heap.size p.1 p.2.1 ∧ ∀ b, p.1.ownBlock = some b → v.ownBlock ≠ some b) ∧ P.Pairwise (fun p q => ∀ b c, p.1.ownBlock = some b → q.1.ownBlock = some c → b < c)
theorem ElemsW.keep {w w' : World} {lo : Nat} {v v' : Value} {P : List (Value × Wa)} (h : ElemsW w lo v P) (hsz : w.heap.size ≤ w'.heap.size) (hb : ∀ b, b < w.heap.size → v.ownBlock ≠ some b → w'.heap[b]? = w.heap[b]?)
    (hv : v'.ownBlock = v.ownBlock ∨ ∃ n, v'.ownBlock = some n ∧ w.heap.size ≤ n) : ElemsW w' lo v' P := by
  refine ⟨fun p hp => ?_, h.2⟩
  obtain ⟨h1, h2⟩ := h.1 p hp
  refine ⟨?_, fun b hb' => ?_⟩
  · rcases h1.block with ⟨e1, e2⟩ | ⟨c, e1, e2, e3, e4⟩
    · rw [e1, e2]; exact ⟨by simp, .inl ⟨rfl, rfl⟩⟩
    · exact (e4.keep fun k q1 q2 => by
        obtain rfl : k = c := by omega
        exact hb k e3 (h2 k e1)).wide e2 (by omega)
  · rcases h1.block with ⟨e1, e2⟩ | ⟨c, e1, e2, e3, e4⟩
    · rw [e1] at hb'; cases hb'
    · rw [e1] at hb'
      cases hb'
      rcases hv with hv | ⟨n, hv, hn⟩
      · rw [hv]; exact h2 _ e1
      · rw [hv]; simp; omega
theorem ElemsW.snoc {w : World} {lo : Nat} {v u : Value} {P : List (Value × Wa)} {k : Wa} {s : Nat} (h : ElemsW w lo v P) (hP : ∀ p ∈ P, ∀ b, p.1.ownBlock = some b → b < s) (hu : RowI w s w.heap.size u k.1) (hlo : lo ≤ s) (hne : ∀ b, u.ownBlock = some b → v.ownBlock ≠ some b) : ElemsW w lo v (P ++ [(u, k)]) := by
  refine ⟨fun p hp => ?_, ?_⟩
  · rcases List.mem_append.1 hp with hp | hp
    · exact h.1 p hp
    · rw [List.mem_singleton] at hp
      subst hp
      exact ⟨hu.wide hlo (Nat.le_refl _), hne⟩
  · rw [List.pairwise_append]
    refine ⟨h.2, List.pairwise_singleton _ _, fun p hp q hq b c hb hc => ?_⟩
    rw [List.mem_singleton] at hq
    subst hq
    have := hP p hp b hb
    rcases hu.block with ⟨e1, _⟩ | ⟨d, e1, e2, e3, _⟩
    · rw [e1] at hc; cases hc
    · rw [e1] at hc; cases hc; omega
/-- out = append(out, walk), and where the new row lies. -/
theorem wpList_pushP_at {w0 : World} {ops : Array Oper} {rest : List Oper} {o : Oper} {a : Act} {Q : Exit → Act → World → Prop} (hgd : o.guard = none) (s x : Operand)
    (ho : o.op = .call { callee := .builtin .append, args := #[s, x], argTypes := #[66, 66] }) (base : Nat) (v : Value) (P : List (Value × Wa)) (ua : Option Addr) (un uc : Nat) (wd : List Int) (y : Int)
    (hs : a.eval s = v) (hx : a.eval x = .slice (some ⟨w0.heap.size, 0, none⟩) 1 1) (hown : OwnsP w0 base v P) (hl : P.length ≤ 1000000000) (hbase : base ≤ w0.heap.size)
    (h : ∀ v' w', OwnsP w' base v' (P ++ [(.slice ua un uc, (wd, y))]) → (w0.alloc (.cells #[.slice ua un uc, .int .i64 y] 65)).grownBy w' v.ownBlock → (v'.ownBlock = v.ownBlock ∨ v'.ownBlock = some (w0.heap.size + 1)) → wpList Try.prog ops Q rest (a.put o.dst v') w') :
    wpList Try.prog ops Q (o :: rest) a (w0.alloc (.cells #[.slice ua un uc, .int .i64 y] 65)) := by
  obtain ⟨i0, hi, hz0, hz1, hz2⟩ := info_parts infoWa
  refine wpList_append_own_at _ hgd s x 66 ho base 65 i0 _ 2 32 Try.underlying66 hi hz0 hz1 hz2 rfl (by decide) v P.length (prW P) hs (World.ownsRow.alloc hown _) ⟨w0.heap.size, 0, none⟩ 1 1 [.slice ua un uc, .int .i64 y] hx rfl ?_ ?_ ?_ ?_ ?_ ?_
  · intro j u hj
    have hk := heap_alloc_new w0 (.cells #[.slice ua un uc, .int .i64 y] 65)
    rw [addr_plus, Nat.zero_add]
    have c := cell_of_heap hk j
    match j, hj with
    | 0, hj => simp at hj; subst hj; simp
    | 1, hj => simp at hj; subst hj; simp
  · intro u hu
    simp at hu
    rcases hu with rfl | rfl <;> rfl
  · unfold maxLen; omega
  · omega
  · simp; omega
  · intro v' w' ho' hg _ hw
    exact h v' w' (by unfold OwnsP; rw [prW_append, List.length_append]; exact ho') hg (by simpa using hw)
end Go.Proofs.Ytmecdboeckmmfaa
