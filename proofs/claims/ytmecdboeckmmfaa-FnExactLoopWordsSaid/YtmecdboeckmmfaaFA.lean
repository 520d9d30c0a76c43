/- Folded graphs, plain mathematics: edges apart, the one step by a letter, the walk along a word. -/
import Derived.Test.YtmecdboeckmmfaaGSR
namespace Go.Proofs.Ytmecdboeckmmfaa
open Go.RowKit
set_option linter.unusedVariables false
set_option linter.unusedSimpArgs false

/-- Two edges that a folded graph cannot both have. -/
def Meets (a b : Ed) : Prop := a.2.1 = b.2.1 ∧ (a.1 = b.1 ∨ a.2.2 = b.2.2)
instance (a b : Ed) : Decidable (Meets a b) := by unfold Meets; infer_instance
/-- Do edge i and the first k edges not meet? -/
def apartE (es : List Ed) (i : Nat) : Nat → Bool
  | 0 => true
  | k + 1 => apartE es i k && !decide (Meets (es.getD i e0) (es.getD k e0))
def foldB (es : List Ed) : Nat → Bool
  | 0 => true
  | k + 1 => foldB es k && apartE es k k
def isFo (r s : Int) (es : List Ed) : Bool := isGr r s es && foldB es es.length
theorem apartE_iff {es : List Ed} {i : Nat} : ∀ {n : Nat}, apartE es i n = true ↔ ∀ k, k < n → ¬ Meets (es.getD i e0) (es.getD k e0) := by
  intro n
  induction n with
  | zero => simp [apartE]
  | succ n ih =>
    rw [apartE, Bool.and_eq_true, ih]
    constructor
    · rintro ⟨h1, h2⟩ k hk
      by_cases hkn : k = n
      · subst hkn; simpa using h2
      · exact h1 k (by omega)
    · intro h
      exact ⟨fun k hk => h k (by omega), by simpa using h n (by omega)⟩
theorem foldB_iff {es : List Ed} : ∀ {n : Nat}, foldB es n = true ↔ ∀ i, i < n → ∀ k, k < i → ¬ Meets (es.getD i e0) (es.getD k e0) := by
  intro n
  induction n with
  | zero => simp [foldB]
  | succ n ih =>
    rw [foldB, Bool.and_eq_true, ih, apartE_iff]
    constructor
    · rintro ⟨h1, h2⟩ i hi k hk
      by_cases hin : i = n
      · subst hin; exact h2 k hk
      · exact h1 i (by omega) k hk
    · intro h
      exact ⟨fun i hi k hk => h i (by omega) k hk, fun k hk => h n (by omega) k hk⟩
theorem apartE_not {es : List Ed} {i k n : Nat} (hk : k < n) (h : Meets (es.getD i e0) (es.getD k e0)) : apartE es i n = false := by
  cases e : apartE es i n with
  | false => rfl
  | true => exact absurd h (apartE_iff.1 e k hk)
theorem foldB_not {es : List Ed} {i k n : Nat} (hi : i < n) (hk : k < i) (h : Meets (es.getD i e0) (es.getD k e0)) : foldB es n = false := by
  cases e : foldB es n with
  | false => rfl
  | true => exact absurd h (foldB_iff.1 e i hi k hk)
/-- What a valid graph's edges are like. -/
theorem isGr_at {r s : Int} {es : List Ed} (hs : -9223372036854775808 ≤ s) (h : isGr r s es = true) {i : Nat} (hi : i < es.length) :
    (0 ≤ (es.getD i e0).1 ∧ (es.getD i e0).1 < s) ∧ (1 ≤ (es.getD i e0).2.1 ∧ (es.getD i e0).2.1 ≤ r) ∧ (0 ≤ (es.getD i e0).2.2 ∧ (es.getD i e0).2.2 < s) := by
  obtain ⟨h1, h2, h3, h4, h5, h6⟩ := isGr_iff.1 h
  have hp := h1 i hi
  unfold placeOk edgeOk at hp
  simp only [Bool.and_eq_true, decide_eq_true_eq] at hp
  have hw : wrap64 (s - 1) = s - 1 := by unfold wrap64; omega
  rw [hw] at hp
  omega
theorem isGr_lim {r s : Int} {es : List Ed} (h : isGr r s es = true) : 1 ≤ r ∧ r ≤ 3 ∧ 1 ≤ s ∧ s ≤ 40 ∧ es.length ≤ 120 := (isGr_iff.1 h).2
/-- The letter l leads from v to y. -/
def StepAt (es : List Ed) (v l y : Int) : Prop :=
  ∃ i, i < es.length ∧ ((v = (es.getD i e0).1 ∧ l = (es.getD i e0).2.1 ∧ y = (es.getD i e0).2.2) ∨ (v = (es.getD i e0).2.2 ∧ l = -(es.getD i e0).2.1 ∧ y = (es.getD i e0).1))
theorem mem_getD {es : List Ed} {P : Ed → Prop} : (∃ e ∈ es, P e) ↔ ∃ i, i < es.length ∧ P (es.getD i e0) := by
  constructor
  · rintro ⟨e, he, h⟩
    obtain ⟨i, hi, rfl⟩ := List.getElem_of_mem he
    exact ⟨i, hi, by simpa [List.getD_eq_getElem?_getD, hi] using h⟩
  · rintro ⟨i, hi, h⟩
    exact ⟨es[i], List.getElem_mem hi, by simpa [List.getD_eq_getElem?_getD, hi] using h⟩
theorem stepAt_iff {r s : Int} {es : List Ed} (hg : isGr r s es = true) {v l y : Int} (hl : -9223372036854775808 ≤ l ∧ l ≤ 9223372036854775807) : y ∈ stepsE v l es ↔ StepAt es v l y := by
  obtain ⟨h2, h3, h4, h5, h6⟩ := isGr_lim hg
  rw [mem_stepsE, mem_getD]
  constructor
  · rintro ⟨i, hi, h⟩
    obtain ⟨b1, b2, b3⟩ := isGr_at (by omega) hg hi
    refine ⟨i, hi, ?_⟩
    rcases h with ⟨a, b, c, d⟩ | ⟨a, b, c, d⟩
    · exact .inl ⟨c.symm, b.symm, d⟩
    · refine .inr ⟨c.symm, ?_, d⟩
      unfold wrap64 at b; omega
  · rintro ⟨i, hi, h⟩
    obtain ⟨b1, b2, b3⟩ := isGr_at (by omega) hg hi
    refine ⟨i, hi, ?_⟩
    rcases h with ⟨a, b, c⟩ | ⟨a, b, c⟩
    · exact .inl ⟨by omega, b.symm, a.symm, c⟩
    · exact .inr ⟨by omega, by unfold wrap64; omega, a.symm, c⟩
theorem stepAt_uniq {r s : Int} {es : List Ed} (hg : isGr r s es = true) (hf : foldB es es.length = true) {v l y z : Int} (h1 : StepAt es v l y) (h2 : StepAt es v l z) : y = z := by
  obtain ⟨g2, g3, g4, g5, g6⟩ := isGr_lim hg
  obtain ⟨i, hi, h1⟩ := h1
  obtain ⟨j, hj, h2⟩ := h2
  obtain ⟨b1, b2, b3⟩ := isGr_at (by omega) hg hi
  obtain ⟨c1, c2, c3⟩ := isGr_at (by omega) hg hj
  have hF := foldB_iff.1 hf
  by_cases hij : i = j
  · subst hij; omega
  · exfalso
    have key : Meets (es.getD i e0) (es.getD j e0) ∧ Meets (es.getD j e0) (es.getD i e0) := by
      unfold Meets
      rcases h1 with ⟨a, b, c⟩ | ⟨a, b, c⟩ <;> rcases h2 with ⟨a', b', c'⟩ | ⟨a', b', c'⟩
      · exact ⟨⟨by omega, .inl (by omega)⟩, ⟨by omega, .inl (by omega)⟩⟩
      · omega
      · omega
      · exact ⟨⟨by omega, .inr (by omega)⟩, ⟨by omega, .inr (by omega)⟩⟩
    rcases Nat.lt_or_ge i j with h | h
    · exact hF j hj i h key.2
    · exact hF i hi j (by omega) key.1
theorem stepAt_vert {r s : Int} {es : List Ed} (hg : isGr r s es = true) {v l y : Int} (h : StepAt es v l y) : (0 ≤ v ∧ v < s) ∧ (0 ≤ y ∧ y < s) ∧ (-r ≤ l ∧ l ≤ r ∧ l ≠ 0) := by
  obtain ⟨g2, g3, g4, g5, g6⟩ := isGr_lim hg
  obtain ⟨i, hi, h⟩ := h
  obtain ⟨b1, b2, b3⟩ := isGr_at (by omega) hg hi
  omega
/-- The model's next vertex. -/
def nxV (es : List Ed) (v l : Int) : Int := (stepsE v l es).headD (-1)
theorem nx_at {r s : Int} {es : List Ed} (hg : isGr r s es = true) (hf : foldB es es.length = true) {v l y : Int} (h : StepAt es v l y) : nxV es v l = y := by
  have hv := stepAt_vert hg h
  obtain ⟨g2, g3, g4, g5, g6⟩ := isGr_lim hg
  have e : stepsE v l es = [y] := by
    refine asc_ext asc_stepsE (List.pairwise_singleton _ _) fun z => ?_
    rw [stepAt_iff hg (by omega), List.mem_singleton]
    exact ⟨fun hz => stepAt_uniq hg hf hz h, fun hz => by rw [hz]; exact h⟩
  unfold nxV
  rw [e]; rfl
theorem nx_no {r s : Int} {es : List Ed} (hg : isGr r s es = true) {v l : Int} (hl : -9223372036854775808 ≤ l ∧ l ≤ 9223372036854775807) (h : ∀ y, ¬ StepAt es v l y) : nxV es v l = -1 := by
  have e : stepsE v l es = [] := by
    refine List.eq_nil_iff_forall_not_mem.2 fun y hy => h y ((stepAt_iff hg hl).1 hy)
  unfold nxV
  rw [e]; rfl
theorem nx_cases {r s : Int} {es : List Ed} (hg : isGr r s es = true) (hf : foldB es es.length = true) {v l : Int} (hl : -9223372036854775808 ≤ l ∧ l ≤ 9223372036854775807) :
    (StepAt es v l (nxV es v l) ∧ 0 ≤ nxV es v l ∧ nxV es v l < s) ∨ (nxV es v l = -1 ∧ ∀ y, ¬ StepAt es v l y) := by
  by_cases h : ∃ y, StepAt es v l y
  · obtain ⟨y, hy⟩ := h
    rw [nx_at hg hf hy]
    exact .inl ⟨hy, (stepAt_vert hg hy).2.1⟩
  · have h' : ∀ y, ¬ StepAt es v l y := fun y hy => h ⟨y, hy⟩
    exact .inr ⟨nx_no hg hl h', h'⟩
theorem stepsE_in {es : List Ed} (hin : InE es) {v l y : Int} (h : y ∈ stepsE v l es) : -9223372036854775808 ≤ y ∧ y ≤ 9223372036854775807 := by
  obtain ⟨e, he, h⟩ := mem_stepsE.1 h
  have := hin e he
  rcases h with ⟨_, _, _, h⟩ | ⟨_, _, _, h⟩ <;> rw [h] <;> omega
theorem nx_in {es : List Ed} (hin : InE es) (v l : Int) : -9223372036854775808 ≤ nxV es v l ∧ nxV es v l ≤ 9223372036854775807 := by
  unfold nxV
  cases h : stepsE v l es with
  | nil => simp
  | cons y ys => simp; exact stepsE_in hin (v := v) (l := l) (by rw [h]; exact List.mem_cons_self)
/-- The walk: to which vertex the first letters lead, and how many can be read. -/
def wk (es : List Ed) : Int → List Int → Int × Nat
  | v, [] => (v, 0)
  | v, x :: w => if nxV es v x < 0 then (v, 0) else ((wk es (nxV es v x) w).1, (wk es (nxV es v x) w).2 + 1)
theorem wk_le (es : List Ed) : ∀ (w : List Int) (v : Int), (wk es v w).2 ≤ w.length := by
  intro w
  induction w with
  | nil => intro v; simp [wk]
  | cons x w ih =>
    intro v
    rw [wk]
    split
    · simp
    · have := ih (nxV es v x); simp; omega
/-- State of a walk: after i letters at v. -/
def WkAt (es : List Ed) (v0 : Int) (w : List Int) (v : Int) (i : Nat) : Prop := i ≤ w.length ∧ wk es v0 w = ((wk es v (w.drop i)).1, i + (wk es v (w.drop i)).2)
theorem wkAt_start (es : List Ed) (v0 : Int) (w : List Int) : WkAt es v0 w v0 0 := by
  refine ⟨Nat.zero_le _, ?_⟩
  simp
theorem wkAt_end {es : List Ed} {v0 v : Int} {w : List Int} {i : Nat} (h : WkAt es v0 w v i) (hi : i = w.length) : wk es v0 w = (v, w.length) := by
  obtain ⟨_, h⟩ := h
  rw [h, hi]
  simp [wk]
theorem drop_oneF {w : List Int} {i : Nat} (hi : i < w.length) : w.drop i = w.getD i 0 :: w.drop (i + 1) := by
  rw [List.drop_eq_getElem_cons hi]
  simp [List.getD_eq_getElem?_getD, hi]
theorem wkAt_stop {es : List Ed} {v0 v : Int} {w : List Int} {i : Nat} (h : WkAt es v0 w v i) (hi : i < w.length) (hn : nxV es v (w.getD i 0) < 0) : wk es v0 w = (v, i) := by
  obtain ⟨_, h⟩ := h
  rw [h, drop_oneF hi, wk, if_pos hn]
  simp
theorem wkAt_step {es : List Ed} {v0 v : Int} {w : List Int} {i : Nat} (h : WkAt es v0 w v i) (hi : i < w.length) (hn : ¬ nxV es v (w.getD i 0) < 0) : WkAt es v0 w (nxV es v (w.getD i 0)) (i + 1) := by
  obtain ⟨h0, h⟩ := h
  refine ⟨by omega, ?_⟩
  rw [h, drop_oneF hi, wk, if_neg hn]
  simp
  omega
/-- Is v a vertex? -/
def isVx (s v : Int) : Bool := decide (0 ≤ v ∧ v < s)
def okWk (r s : Int) (es : List Ed) (v : Int) : Bool := isFo r s es && isVx s v
/-- What WalkWord and ReadLength answer. -/
def readN (r s : Int) (es : List Ed) (v : Int) (w : List Int) : Int := if okWk r s es v then ((wk es v w).2 : Int) else 0
def walkB (r s : Int) (es : List Ed) (v : Int) (w : List Int) : Bool := okWk r s es v && decide ((wk es v w).2 = w.length)
def walkV (r s : Int) (es : List Ed) (v : Int) (w : List Int) : Int := if walkB r s es v w then (wk es v w).1 else -1
end Go.Proofs.Ytmecdboeckmmfaa
