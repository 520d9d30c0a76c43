/- Graphs, the mathematics of StepsFrom: its answer's members, its order, and the way back. -/
import Derived.Test.YtmecdboeckmmfaaGS9
namespace Go.Proofs.Ytmecdboeckmmfaa
open Go.RowKit
set_option linter.unusedVariables false

theorem mem_addZ {x y : Int} : ∀ {l : List Int}, y ∈ addZ x l ↔ y = x ∨ y ∈ l := by
  intro l
  induction l with
  | nil => rw [addZ_nil]; simp
  | cons z zs ih =>
    rcases Int.lt_trichotomy z x with h | h | h
    · rw [addZ_lt zs h, List.mem_cons, ih, List.mem_cons]
      constructor
      · rintro (h1 | h1 | h1)
        · exact .inr (.inl h1)
        · exact .inl h1
        · exact .inr (.inr h1)
      · rintro (h1 | h1 | h1)
        · exact .inr (.inl h1)
        · exact .inl h1
        · exact .inr (.inr h1)
    · rw [addZ_eq zs h]
      constructor
      · intro h1; exact .inr h1
      · rintro (h1 | h1)
        · rw [h1, ← h]; exact List.mem_cons_self
        · exact h1
    · rw [addZ_gt zs h, List.mem_cons]
/-- An edge leads from v by the letter x to y. -/
def Leads (v x : Int) (e : Ed) (y : Int) : Prop := (0 < x ∧ e.2.1 = x ∧ e.1 = v ∧ y = e.2.2) ∨ (x < 0 ∧ e.2.1 = wrap64 (-x) ∧ e.2.2 = v ∧ y = e.1)
theorem mem_stepE {v x y : Int} {acc : List Int} {e : Ed} : y ∈ stepE v x acc e ↔ y ∈ acc ∨ Leads v x e y := by
  unfold stepE Leads
  split
  · rename_i h
    rw [mem_addZ]
    constructor
    · rintro (h1 | h1)
      · exact .inr (.inl ⟨h.1, h.2.1, h.2.2, h1⟩)
      · exact .inl h1
    · rintro (h1 | ⟨_, _, _, h1⟩ | ⟨h1, _⟩)
      · exact .inr h1
      · exact .inl h1
      · omega
  · rename_i h
    split
    · rename_i h2
      rw [mem_addZ]
      constructor
      · rintro (h1 | h1)
        · exact .inr (.inr ⟨h2.1, h2.2.1, h2.2.2, h1⟩)
        · exact .inl h1
      · rintro (h1 | ⟨h1, _⟩ | ⟨_, _, _, h1⟩)
        · exact .inr h1
        · omega
        · exact .inl h1
    · rename_i h2
      constructor
      · intro h1; exact .inl h1
      · rintro (h1 | ⟨a, b, c, _⟩ | ⟨a, b, c, _⟩)
        · exact h1
        · exact absurd ⟨a, b, c⟩ h
        · exact absurd ⟨a, b, c⟩ h2
theorem mem_foldE {v x y : Int} : ∀ (es : List Ed) (acc : List Int), y ∈ es.foldl (stepE v x) acc ↔ y ∈ acc ∨ ∃ e ∈ es, Leads v x e y := by
  intro es
  induction es with
  | nil => intro acc; simp
  | cons e es ih =>
    intro acc
    rw [List.foldl_cons, ih, mem_stepE]
    constructor
    · rintro ((h | h) | ⟨d, hd, h⟩)
      · exact .inl h
      · exact .inr ⟨e, List.mem_cons_self, h⟩
      · exact .inr ⟨d, List.mem_cons_of_mem _ hd, h⟩
    · rintro (h | ⟨d, hd, h⟩)
      · exact .inl (.inl h)
      · rcases List.mem_cons.1 hd with h1 | h1
        · rw [h1] at h; exact .inl (.inr h)
        · exact .inr ⟨d, h1, h⟩
theorem mem_stepsE {v x y : Int} {es : List Ed} : y ∈ stepsE v x es ↔ ∃ e ∈ es, Leads v x e y := by
  unfold stepsE
  rw [mem_foldE]
  simp
/-- The way back. -/
theorem steps_back {v x y : Int} {es : List Ed} (hx : -1000 ≤ x ∧ x ≤ 1000) (h : y ∈ stepsE v x es) : v ∈ stepsE y (-x) es := by
  obtain ⟨e, he, h1⟩ := mem_stepsE.1 h
  refine mem_stepsE.2 ⟨e, he, ?_⟩
  rcases h1 with ⟨a, b, c, d⟩ | ⟨a, b, c, d⟩
  · exact .inr ⟨by omega, by rw [b]; unfold wrap64; omega, d.symm, c.symm⟩
  · refine .inl ⟨by omega, ?_, d.symm, c.symm⟩
    rw [b]; unfold wrap64; omega
theorem asc_addZ {x : Int} : ∀ {l : List Int}, l.Pairwise (· < ·) → (addZ x l).Pairwise (· < ·) := by
  intro l
  induction l with
  | nil => intro _; rw [addZ_nil]; exact List.pairwise_singleton _ _
  | cons z zs ih =>
    intro h
    have hp := List.pairwise_cons.1 h
    rcases Int.lt_trichotomy z x with c | c | c
    · rw [addZ_lt zs c]
      refine List.pairwise_cons.2 ⟨fun y hy => ?_, ih hp.2⟩
      rcases mem_addZ.1 hy with hy | hy
      · rw [hy]; exact c
      · exact hp.1 y hy
    · rw [addZ_eq zs c]; exact h
    · rw [addZ_gt zs c]
      refine List.pairwise_cons.2 ⟨fun y hy => ?_, h⟩
      rcases List.mem_cons.1 hy with hy | hy
      · rw [hy]; exact c
      · exact Int.lt_trans c (hp.1 y hy)
theorem asc_stepsE {v x : Int} {es : List Ed} : (stepsE v x es).Pairwise (· < ·) := by
  unfold stepsE
  have key : ∀ (es : List Ed) (acc : List Int), acc.Pairwise (· < ·) → (es.foldl (stepE v x) acc).Pairwise (· < ·) := by
    intro es
    induction es with
    | nil => intro acc h; exact h
    | cons e es ih =>
      intro acc h
      rw [List.foldl_cons]
      refine ih _ ?_
      unfold stepE
      split
      · exact asc_addZ h
      · split
        · exact asc_addZ h
        · exact h
  exact key es [] List.Pairwise.nil
/-- Two strictly ascending lists with the same members are one. -/
theorem asc_ext : ∀ {a b : List Int}, a.Pairwise (· < ·) → b.Pairwise (· < ·) → (∀ x, x ∈ a ↔ x ∈ b) → a = b := by
  intro a
  induction a with
  | nil =>
    intro b _ _ h
    cases b with
    | nil => rfl
    | cons y ys => exact absurd ((h y).2 List.mem_cons_self) (by simp)
  | cons x xs ih =>
    intro b ha hb h
    cases b with
    | nil => exact absurd ((h x).1 List.mem_cons_self) (by simp)
    | cons y ys =>
      have pa := List.pairwise_cons.1 ha
      have pb := List.pairwise_cons.1 hb
      have hxy : x = y := by
        rcases List.mem_cons.1 ((h x).1 List.mem_cons_self) with h1 | h1
        · exact h1
        · rcases List.mem_cons.1 ((h y).2 List.mem_cons_self) with h2 | h2
          · exact h2.symm
          · have := pb.1 x h1; have := pa.1 y h2; omega
      subst hxy
      rw [ih pa.2 pb.2 (fun z => ?_)]
      constructor
      · intro hz
        rcases List.mem_cons.1 ((h z).1 (List.mem_cons_of_mem _ hz)) with h1 | h1
        · have := pa.1 z hz; omega
        · exact h1
      · intro hz
        rcases List.mem_cons.1 ((h z).2 (List.mem_cons_of_mem _ hz)) with h1 | h1
        · have := pb.1 z hz; omega
        · exact h1
end Go.Proofs.Ytmecdboeckmmfaa
