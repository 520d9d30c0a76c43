/- Plain mathematics of graphs: edges in order, valid graphs, a new edge in its place. -/
import Derived.Test.YtdeofaimgldklaaGE
namespace Go.Proofs.Ytdeofaimgldklaa
open Go.RowKit
set_option linter.unusedVariables false

def ecell (e : Ed) : Nat → Int
  | 0 => e.1
  | 1 => e.2.1
  | _ => e.2.2
def cmpE (a b : Ed) : Int :=
  if a.1 < b.1 then -1 else if b.1 < a.1 then 1 else if a.2.1 < b.2.1 then -1 else if b.2.1 < a.2.1 then 1 else if a.2.2 < b.2.2 then -1 else if b.2.2 < a.2.2 then 1 else 0
theorem cmpE_lt {a b : Ed} {k : Nat} (hk : k < 3) (h : ∀ j, j < k → ecell a j = ecell b j) (hl : ecell a k < ecell b k) : cmpE a b = -1 := by
  have hk3 : k = 0 ∨ k = 1 ∨ k = 2 := by omega
  unfold cmpE
  rcases hk3 with rfl | rfl | rfl
  · have hl' : a.1 < b.1 := hl
    rw [if_pos hl']
  · have h0 : a.1 = b.1 := h 0 (by omega)
    have hl' : a.2.1 < b.2.1 := hl
    rw [if_neg (by omega), if_neg (by omega), if_pos hl']
  · have h0 : a.1 = b.1 := h 0 (by omega)
    have h1 : a.2.1 = b.2.1 := h 1 (by omega)
    have hl' : a.2.2 < b.2.2 := hl
    rw [if_neg (by omega), if_neg (by omega), if_neg (by omega), if_neg (by omega), if_pos hl']
theorem cmpE_gt {a b : Ed} {k : Nat} (hk : k < 3) (h : ∀ j, j < k → ecell a j = ecell b j) (hl : ecell b k < ecell a k) : cmpE a b = 1 := by
  have hk3 : k = 0 ∨ k = 1 ∨ k = 2 := by omega
  unfold cmpE
  rcases hk3 with rfl | rfl | rfl
  · have hl' : b.1 < a.1 := hl
    rw [if_neg (by omega), if_pos hl']
  · have h0 : a.1 = b.1 := h 0 (by omega)
    have hl' : b.2.1 < a.2.1 := hl
    rw [if_neg (by omega), if_neg (by omega), if_neg (by omega), if_pos hl']
  · have h0 : a.1 = b.1 := h 0 (by omega)
    have h1 : a.2.1 = b.2.1 := h 1 (by omega)
    have hl' : b.2.2 < a.2.2 := hl
    rw [if_neg (by omega), if_neg (by omega), if_neg (by omega), if_neg (by omega), if_neg (by omega), if_pos hl']
theorem cmpE_eq {a b : Ed} (h : ∀ j, j < 3 → ecell a j = ecell b j) : cmpE a b = 0 := by
  have h0 : a.1 = b.1 := h 0 (by omega)
  have h1 : a.2.1 = b.2.1 := h 1 (by omega)
  have h2 : a.2.2 = b.2.2 := h 2 (by omega)
  unfold cmpE
  rw [if_neg (by omega), if_neg (by omega), if_neg (by omega), if_neg (by omega), if_neg (by omega), if_neg (by omega)]
theorem cmpE_zero {a b : Ed} (h : cmpE a b = 0) : a = b := by
  unfold cmpE at h
  obtain ⟨f, l, t⟩ := a
  obtain ⟨f', l', t'⟩ := b
  simp only at h
  have : f = f' ∧ l = l' ∧ t = t' := by
    split at h
    · omega
    · split at h
      · omega
      · split at h
        · omega
        · split at h
          · omega
          · split at h
            · omega
            · split at h
              · omega
              · omega
  obtain ⟨rfl, rfl, rfl⟩ := this
  rfl
theorem cmpE_self (a : Ed) : cmpE a a = 0 := cmpE_eq (fun _ _ => rfl)
theorem cmpE_neg (a b : Ed) : cmpE a b = -cmpE b a := by
  unfold cmpE
  repeat' split
  all_goals omega
theorem cmpE_cases (a b : Ed) : cmpE a b = -1 ∨ cmpE a b = 0 ∨ cmpE a b = 1 := by
  unfold cmpE
  repeat' split
  all_goals simp
theorem cmpE_trans {a b c : Ed} (h1 : cmpE a b < 0) (h2 : cmpE b c < 0) : cmpE a c < 0 := by
  have lt : ∀ x y : Ed, cmpE x y < 0 → x.1 < y.1 ∨ x.1 = y.1 ∧ (x.2.1 < y.2.1 ∨ x.2.1 = y.2.1 ∧ x.2.2 < y.2.2) := by
    intro x y h
    unfold cmpE at h
    repeat' split at h
    all_goals omega
  have hab := lt a b h1
  have hbc := lt b c h2
  unfold cmpE
  repeat' split
  all_goals omega
/-- Has the edge vertices and a letter of the graph? -/
def edgeOk (r s : Int) (e : Ed) : Bool := decide (0 ≤ e.1 ∧ e.1 ≤ wrap64 (s - 1)) && decide (0 ≤ e.2.2 ∧ e.2.2 ≤ wrap64 (s - 1)) && decide (1 ≤ e.2.1 ∧ e.2.1 ≤ r)
/-- Place i is as it must be: the edge fits, and comes after the one before. -/
def placeOk (r s : Int) (es : List Ed) (i : Nat) : Bool := edgeOk r s (es.getD i e0) && (decide (i = 0) || decide (cmpE (es.getD (i - 1) e0) (es.getD i e0) < 0))
def placesOk (r s : Int) (es : List Ed) : Nat → Bool
  | 0 => true
  | k + 1 => placesOk r s es k && placeOk r s es k
def isGr (r s : Int) (es : List Ed) : Bool := placesOk r s es es.length && (decide (1 ≤ r ∧ r ≤ 3) && decide (1 ≤ s ∧ s ≤ 40) && decide (es.length ≤ 120))
theorem placesOk_not {r s : Int} {es : List Ed} {k : Nat} (h : placeOk r s es k = false) : ∀ n, k < n → placesOk r s es n = false := by
  intro n
  induction n with
  | zero => intro h; omega
  | succ n ih =>
    intro hk
    rw [placesOk]
    by_cases hn : k = n
    · subst hn; rw [h, Bool.and_false]
    · rw [ih (by omega), Bool.false_and]
theorem isGr_not {r s : Int} {es : List Ed} {k : Nat} (hk : k < es.length) (h : placeOk r s es k = false) : isGr r s es = false := by
  unfold isGr
  rw [placesOk_not h _ hk, Bool.false_and]
theorem placesOk_at {r s : Int} {es : List Ed} : ∀ {n : Nat}, placesOk r s es n = true → ∀ i, i < n → placeOk r s es i = true := by
  intro n
  induction n with
  | zero => intro _ i h; omega
  | succ n ih =>
    intro h i hi
    rw [placesOk, Bool.and_eq_true] at h
    by_cases hn : i = n
    · subst hn; exact h.2
    · exact ih h.1 i (by omega)
theorem isGr_iff {r s : Int} {es : List Ed} : isGr r s es = true ↔ (∀ i, i < es.length → placeOk r s es i = true) ∧ 1 ≤ r ∧ r ≤ 3 ∧ 1 ≤ s ∧ s ≤ 40 ∧ es.length ≤ 120 := by
  unfold isGr
  simp only [Bool.and_eq_true, decide_eq_true_eq]
  constructor
  · rintro ⟨h1, ⟨⟨h2, h3⟩, h4, h5⟩, h6⟩
    exact ⟨placesOk_at h1, h2, h3, h4, h5, h6⟩
  · rintro ⟨h1, h2, h3, h4, h5, h6⟩
    refine ⟨?_, ⟨⟨h2, h3⟩, h4, h5⟩, h6⟩
    have : ∀ n, n ≤ es.length → placesOk r s es n = true := by
      intro n
      induction n with
      | zero => intro _; rfl
      | succ n ih => intro hn; rw [placesOk, ih (by omega), h1 n (by omega)]; rfl
    exact this _ (Nat.le_refl _)
end Go.Proofs.Ytdeofaimgldklaa
