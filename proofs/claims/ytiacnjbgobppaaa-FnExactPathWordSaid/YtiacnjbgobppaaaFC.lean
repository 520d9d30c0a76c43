/- The vertices that are connected with one, plain mathematics: passes over the edges until nothing is new. -/
import Derived.Test.YtiacnjbgobppaaaFA
namespace Go.Proofs.Ytiacnjbgobppaaa
open Go.RowKit
set_option linter.unusedVariables false
set_option linter.unusedSimpArgs false

/-- One edge in a pass, as the model goes about it. -/
def touch1 (acc : List Int) (e : Ed) : List Int := if e.1 ∈ acc then addZ e.2.2 acc else acc
def touchE (acc : List Int) (e : Ed) : List Int := if e.2.2 ∈ touch1 acc e then addZ e.1 (touch1 acc e) else touch1 acc e
def passE (es : List Ed) (acc : List Int) : List Int := es.foldl touchE acc
def passN (es : List Ed) : Nat → List Int → List Int
  | 0, acc => acc
  | k + 1, acc => passE es (passN es k acc)
def reachL (es : List Ed) (v : Int) : List Int := passN es (es.length + 1) [v]
theorem mem_touchE {acc : List Int} {e : Ed} {y : Int} : y ∈ touchE acc e ↔ y ∈ acc ∨ ((e.1 ∈ acc ∨ e.2.2 ∈ acc) ∧ (y = e.1 ∨ y = e.2.2)) := by
  unfold touchE touch1
  by_cases h1 : e.1 ∈ acc
  · rw [if_pos h1, if_pos (mem_addZ.2 (.inl rfl)), mem_addZ, mem_addZ]
    constructor
    · rintro (h | h | h)
      · exact .inr ⟨.inl h1, .inl h⟩
      · exact .inr ⟨.inl h1, .inr h⟩
      · exact .inl h
    · rintro (h | ⟨_, h | h⟩)
      · exact .inr (.inr h)
      · exact .inl h
      · exact .inr (.inl h)
  · rw [if_neg h1]
    by_cases h2 : e.2.2 ∈ acc
    · rw [if_pos h2, mem_addZ]
      constructor
      · rintro (h | h)
        · exact .inr ⟨.inr h2, .inl h⟩
        · exact .inl h
      · rintro (h | ⟨_, h | h⟩)
        · exact .inr h
        · exact .inl h
        · exact .inr (by rw [h]; exact h2)
    · rw [if_neg h2]
      constructor
      · exact fun h => .inl h
      · rintro (h | ⟨h | h, _⟩)
        · exact h
        · exact absurd h h1
        · exact absurd h h2
theorem asc_touch1 {acc : List Int} {e : Ed} (h : acc.Pairwise (· < ·)) : (touch1 acc e).Pairwise (· < ·) := by
  unfold touch1; split
  · exact asc_addZ h
  · exact h
theorem asc_touchE {acc : List Int} {e : Ed} (h : acc.Pairwise (· < ·)) : (touchE acc e).Pairwise (· < ·) := by
  unfold touchE; split
  · exact asc_addZ (asc_touch1 h)
  · exact asc_touch1 h
theorem asc_passE : ∀ (es : List Ed) {acc : List Int}, acc.Pairwise (· < ·) → (passE es acc).Pairwise (· < ·) := by
  intro es
  induction es with
  | nil => intro acc h; exact h
  | cons e es ih => intro acc h; exact ih (asc_touchE h)
theorem asc_passN (es : List Ed) {acc : List Int} (h : acc.Pairwise (· < ·)) : ∀ k, (passN es k acc).Pairwise (· < ·) := by
  intro k
  induction k with
  | zero => exact h
  | succ k ih => exact asc_passE es ih
theorem sub_passE : ∀ (es : List Ed) {acc : List Int} {y : Int}, y ∈ acc → y ∈ passE es acc := by
  intro es
  induction es with
  | nil => intro acc y h; exact h
  | cons e es ih => intro acc y h; exact ih (mem_touchE.2 (.inl h))
theorem touch_same {acc : List Int} {e : Ed} (ha : acc.Pairwise (· < ·)) (h : e.1 ∈ acc ↔ e.2.2 ∈ acc) : touchE acc e = acc := by
  refine asc_ext (asc_touchE ha) ha fun y => ?_
  rw [mem_touchE]
  constructor
  · rintro (h1 | ⟨h1, h2 | h2⟩)
    · exact h1
    · rw [h2]; rcases h1 with h1 | h1
      · exact h1
      · exact h.2 h1
    · rw [h2]; rcases h1 with h1 | h1
      · exact h.1 h1
      · exact h1
  · exact fun h1 => .inl h1
theorem pass_same : ∀ {es : List Ed} {acc : List Int}, acc.Pairwise (· < ·) → (∀ e ∈ es, e.1 ∈ acc ↔ e.2.2 ∈ acc) → passE es acc = acc := by
  intro es
  induction es with
  | nil => intro acc _ _; rfl
  | cons e es ih =>
    intro acc ha h
    show passE es (touchE acc e) = acc
    rw [touch_same ha (h e List.mem_cons_self)]
    exact ih ha fun e' he' => h e' (List.mem_cons_of_mem _ he')
theorem pass_both : ∀ {es : List Ed} {acc : List Int} {e : Ed}, e ∈ es → e.1 ∈ acc ∨ e.2.2 ∈ acc → e.1 ∈ passE es acc ∧ e.2.2 ∈ passE es acc := by
  intro es
  induction es with
  | nil => intro acc e h; cases h
  | cons e' es ih =>
    intro acc e he h
    show e.1 ∈ passE es (touchE acc e') ∧ e.2.2 ∈ passE es (touchE acc e')
    rcases List.mem_cons.1 he with rfl | he
    · exact ⟨sub_passE es (mem_touchE.2 (.inr ⟨h, .inl rfl⟩)), sub_passE es (mem_touchE.2 (.inr ⟨h, .inr rfl⟩))⟩
    · exact ih he (h.imp (fun h => mem_touchE.2 (.inl h)) (fun h => mem_touchE.2 (.inl h)))
theorem pass_or {es : List Ed} {acc : List Int} (ha : acc.Pairwise (· < ·)) : passE es acc = acc ∨ ∃ e ∈ es, (e.1 ∈ acc ∧ e.2.2 ∉ acc) ∨ (e.2.2 ∈ acc ∧ e.1 ∉ acc) := by
  by_cases h : ∃ e ∈ es, (e.1 ∈ acc ∧ e.2.2 ∉ acc) ∨ (e.2.2 ∈ acc ∧ e.1 ∉ acc)
  · exact .inr h
  · refine .inl (pass_same ha fun e he => ?_)
    constructor
    · intro h1
      by_cases h2 : e.2.2 ∈ acc
      · exact h2
      · exact absurd ⟨e, he, .inl ⟨h1, h2⟩⟩ h
    · intro h1
      by_cases h2 : e.1 ∈ acc
      · exact h2
      · exact absurd ⟨e, he, .inr ⟨h1, h2⟩⟩ h
theorem cnt_le {α : Type} {p q : α → Bool} : ∀ {l : List α}, (∀ x ∈ l, p x = true → q x = true) → l.countP p ≤ l.countP q := by
  intro l
  induction l with
  | nil => intro _; simp
  | cons a l ih =>
    intro h
    have h1 := ih fun x hx => h x (List.mem_cons_of_mem _ hx)
    have h2 := h a List.mem_cons_self
    rw [List.countP_cons, List.countP_cons]
    cases hp : p a
    · simp; omega
    · rw [h2 hp]; simp; exact h1
theorem cnt_lt {α : Type} {p q : α → Bool} : ∀ {l : List α}, (∀ x ∈ l, p x = true → q x = true) → (∃ x ∈ l, q x = true ∧ p x = false) → l.countP p + 1 ≤ l.countP q := by
  intro l
  induction l with
  | nil => rintro _ ⟨x, hx, _⟩; cases hx
  | cons a l ih =>
    rintro h ⟨x, hx, h1, h2⟩
    rw [List.countP_cons, List.countP_cons]
    rcases List.mem_cons.1 hx with rfl | hx
    · have := cnt_le (l := l) (p := p) (q := q) fun y hy => h y (List.mem_cons_of_mem _ hy)
      rw [h1, h2]; simp; exact this
    · have i := ih (fun y hy => h y (List.mem_cons_of_mem _ hy)) ⟨x, hx, h1, h2⟩
      have h3 := h a List.mem_cons_self
      cases hp : p a
      · simp; omega
      · rw [h3 hp]; simp; omega
/-- How many edges lie within. -/
def inC (es : List Ed) (acc : List Int) : Nat := es.countP fun e => decide (e.1 ∈ acc ∧ e.2.2 ∈ acc)
/-- How many vertices. -/
def vxC (s : Nat) (acc : List Int) : Nat := (List.range s).countP fun (u : Nat) => decide ((u : Int) ∈ acc)
theorem inC_le (es : List Ed) (acc : List Int) : inC es acc ≤ es.length := List.countP_le_length
theorem vxC_le (s : Nat) (acc : List Int) : vxC s acc ≤ s := by
  have : vxC s acc ≤ (List.range s).length := List.countP_le_length
  simpa using this
theorem inC_more {es : List Ed} {acc : List Int} (h : ∃ e ∈ es, (e.1 ∈ acc ∧ e.2.2 ∉ acc) ∨ (e.2.2 ∈ acc ∧ e.1 ∉ acc)) : inC es acc + 1 ≤ inC es (passE es acc) := by
  obtain ⟨e, he, h⟩ := h
  refine cnt_lt (fun x hx hp => ?_) ⟨e, he, ?_, ?_⟩
  · have hp' := of_decide_eq_true hp
    exact decide_eq_true ⟨sub_passE es hp'.1, sub_passE es hp'.2⟩
  · exact decide_eq_true (pass_both (acc := acc) he (by rcases h with h | h <;> simp [h.1]))
  · rw [decide_eq_false_iff_not]
    rintro ⟨h1, h2⟩
    rcases h with h | h
    · exact h.2 h2
    · exact h.2 h1
/-- Both ends of each edge are vertices. -/
def EndsIn (s : Nat) (es : List Ed) : Prop := ∀ e ∈ es, (0 ≤ e.1 ∧ e.1 < (s : Int)) ∧ (0 ≤ e.2.2 ∧ e.2.2 < (s : Int))
theorem vxC_more {s : Nat} {es : List Ed} {acc : List Int} (hE : EndsIn s es) (h : ∃ e ∈ es, (e.1 ∈ acc ∧ e.2.2 ∉ acc) ∨ (e.2.2 ∈ acc ∧ e.1 ∉ acc)) : vxC s acc + 1 ≤ vxC s (passE es acc) := by
  obtain ⟨e, he, h⟩ := h
  have hb := pass_both (acc := acc) he (by rcases h with h | h <;> simp [h.1])
  have hv : ∃ y : Int, 0 ≤ y ∧ y < (s : Int) ∧ y ∈ passE es acc ∧ y ∉ acc := by
    rcases h with h | h
    · exact ⟨e.2.2, (hE e he).2.1, (hE e he).2.2, hb.2, h.2⟩
    · exact ⟨e.1, (hE e he).1.1, (hE e he).1.2, hb.1, h.2⟩
  obtain ⟨y, y0, y1, y2, y3⟩ := hv
  have hy : ((y.toNat : Nat) : Int) = y := by omega
  refine cnt_lt (fun x hx hp => decide_eq_true (sub_passE es (of_decide_eq_true hp))) ⟨y.toNat, List.mem_range.2 (by omega), ?_, ?_⟩
  · rw [hy]; exact decide_eq_true y2
  · rw [hy]; exact decide_eq_false y3
theorem passN_or_in {es : List Ed} {acc : List Int} (ha : acc.Pairwise (· < ·)) : ∀ k, (∃ j, j < k ∧ passE es (passN es j acc) = passN es j acc) ∨ k ≤ inC es (passN es k acc) := by
  intro k
  induction k with
  | zero => exact .inr (Nat.zero_le _)
  | succ k ih =>
    rcases ih with ⟨j, hj, h⟩ | h
    · exact .inl ⟨j, by omega, h⟩
    · rcases pass_or (es := es) (asc_passN es ha k) with h2 | h2
      · exact .inl ⟨k, by omega, h2⟩
      · have := inC_more h2
        exact .inr (by show k + 1 ≤ inC es (passE es (passN es k acc)); omega)
theorem passN_or_vx {s : Nat} {es : List Ed} {acc : List Int} (hE : EndsIn s es) (ha : acc.Pairwise (· < ·)) (h0 : 1 ≤ vxC s acc) : ∀ k, (∃ j, j < k ∧ passE es (passN es j acc) = passN es j acc) ∨ k + 1 ≤ vxC s (passN es k acc) := by
  intro k
  induction k with
  | zero => exact .inr h0
  | succ k ih =>
    rcases ih with ⟨j, hj, h⟩ | h
    · exact .inl ⟨j, by omega, h⟩
    · rcases pass_or (es := es) (asc_passN es ha k) with h2 | h2
      · exact .inl ⟨k, by omega, h2⟩
      · have := vxC_more hE h2
        exact .inr (by show k + 1 + 1 ≤ vxC s (passE es (passN es k acc)); omega)
theorem passN_stay {es : List Ed} {acc : List Int} {j : Nat} (h : passE es (passN es j acc) = passN es j acc) : ∀ m, passN es (j + m) acc = passN es j acc := by
  intro m
  induction m with
  | zero => rfl
  | succ m ih => show passE es (passN es (j + m) acc) = _; rw [ih, h]
/-- As many rounds as there are vertices are enough, and so are one more than there are edges. -/
theorem reach_rounds {s : Nat} {es : List Ed} {v : Int} (hE : EndsIn s es) (hv : 0 ≤ v ∧ v < (s : Int)) : passN es s [v] = reachL es v := by
  have ha : [v].Pairwise (fun a b : Int => a < b) := List.pairwise_singleton _ _
  have h0 : 1 ≤ vxC s [v] := by
    refine List.one_le_countP_iff.2 ⟨v.toNat, List.mem_range.2 (by omega), ?_⟩
    exact decide_eq_true (by rw [show ((v.toNat : Nat) : Int) = v by omega]; simp)
  have h1 : ∃ j, j < s ∧ passE es (passN es j [v]) = passN es j [v] := by
    rcases passN_or_vx hE ha h0 s with h | h
    · exact h
    · have := vxC_le s (passN es s [v]); omega
  have h2 : ∃ j, j < es.length + 1 ∧ passE es (passN es j [v]) = passN es j [v] := by
    rcases passN_or_in (es := es) ha (es.length + 1) with h | h
    · exact h
    · have := inC_le es (passN es (es.length + 1) [v]); omega
  obtain ⟨j, hj, h1⟩ := h1
  obtain ⟨i, hi, h2⟩ := h2
  have a1 := passN_stay h1 (s - j)
  have a2 := passN_stay h1 (s + es.length + 1 - j)
  have b1 := passN_stay h2 (es.length + 1 - i)
  have b2 := passN_stay h2 (s + es.length + 1 - i)
  rw [show j + (s - j) = s by omega] at a1
  rw [show j + (s + es.length + 1 - j) = s + es.length + 1 by omega] at a2
  rw [show i + (es.length + 1 - i) = es.length + 1 by omega] at b1
  rw [show i + (s + es.length + 1 - i) = s + es.length + 1 by omega] at b2
  unfold reachL
  rw [a1, b1, ← a2, b2]
theorem passE_in {s : Nat} : ∀ {es : List Ed} {acc : List Int}, EndsIn s es → (∀ y ∈ acc, 0 ≤ y ∧ y < (s : Int)) → ∀ y ∈ passE es acc, 0 ≤ y ∧ y < (s : Int) := by
  intro es
  induction es with
  | nil => intro acc _ h; exact h
  | cons e es ih =>
    intro acc hE h
    refine ih (fun e' he' => hE e' (List.mem_cons_of_mem _ he')) fun y hy => ?_
    rcases mem_touchE.1 hy with h1 | ⟨_, h1 | h1⟩
    · exact h y h1
    · rw [h1]; exact (hE e List.mem_cons_self).1
    · rw [h1]; exact (hE e List.mem_cons_self).2
theorem passN_in {s : Nat} {es : List Ed} {acc : List Int} (hE : EndsIn s es) (h : ∀ y ∈ acc, 0 ≤ y ∧ y < (s : Int)) : ∀ k, ∀ y ∈ passN es k acc, 0 ≤ y ∧ y < (s : Int) := by
  intro k
  induction k with
  | zero => exact h
  | succ k ih => exact passE_in hE ih
/-- The ascending list of the first k vertices that are on a list. -/
def upTo (L : List Int) : Nat → List Int
  | 0 => []
  | k + 1 => if (k : Int) ∈ L then upTo L k ++ [(k : Int)] else upTo L k
theorem mem_upTo {L : List Int} {y : Int} : ∀ {k : Nat}, y ∈ upTo L k ↔ y ∈ L ∧ 0 ≤ y ∧ y < (k : Int) := by
  intro k
  induction k with
  | zero =>
    constructor
    · intro h; cases h
    · rintro ⟨_, h1, h2⟩; omega
  | succ k ih =>
    unfold upTo
    split
    case isTrue hk =>
      rw [List.mem_append, ih, List.mem_singleton]
      constructor
      · rintro (⟨h1, h2, h3⟩ | rfl)
        · exact ⟨h1, h2, by omega⟩
        · exact ⟨hk, by omega, by omega⟩
      · rintro ⟨h1, h2, h3⟩
        by_cases h4 : y = (k : Int)
        · exact .inr h4
        · exact .inl ⟨h1, h2, by omega⟩
    case isFalse hk =>
      rw [ih]
      constructor
      · rintro ⟨h1, h2, h3⟩; exact ⟨h1, h2, by omega⟩
      · rintro ⟨h1, h2, h3⟩
        by_cases h4 : y = (k : Int)
        · exact absurd (h4 ▸ h1) hk
        · exact ⟨h1, h2, by omega⟩
theorem asc_upTo {L : List Int} : ∀ k : Nat, (upTo L k).Pairwise (· < ·) := by
  intro k
  induction k with
  | zero => exact List.Pairwise.nil
  | succ k ih =>
    unfold upTo
    split
    · rw [List.pairwise_append]
      refine ⟨ih, List.pairwise_singleton _ _, fun a ha b hb => ?_⟩
      rw [List.mem_singleton] at hb
      have := (mem_upTo.1 ha).2.2
      omega
    · exact ih
theorem upTo_length (L : List Int) : ∀ k, (upTo L k).length ≤ k := by
  intro k
  induction k with
  | zero => simp [upTo]
  | succ k ih =>
    unfold upTo
    split
    · simp; omega
    · omega
theorem upTo_all {s : Nat} {es : List Ed} {v : Int} (hE : EndsIn s es) (hv : 0 ≤ v ∧ v < (s : Int)) : upTo (passN es s [v]) s = reachL es v := by
  rw [← reach_rounds hE hv]
  refine asc_ext (asc_upTo s) (asc_passN es (List.pairwise_singleton _ _) s) fun y => ?_
  rw [mem_upTo]
  constructor
  · exact fun h => h.1
  · intro h
    have := passN_in hE (acc := [v]) (fun y hy => by rw [List.mem_singleton] at hy; omega) s y h
    exact ⟨h, this.1, this.2⟩
theorem reachL_length {s : Nat} {es : List Ed} {v : Int} (hE : EndsIn s es) (hv : 0 ≤ v ∧ v < (s : Int)) : (reachL es v).length ≤ s := by
  rw [← upTo_all hE hv]
  exact upTo_length _ _
theorem endsIn_of {r s : Int} {es : List Ed} (h : isGr r s es = true) : EndsIn s.toNat es := by
  have hl := isGr_lim h
  intro e he
  obtain ⟨i, hi, rfl⟩ := List.getElem_of_mem he
  have := isGr_at (by omega) h hi
  rw [List.getD_eq_getElem?_getD, List.getElem?_eq_getElem hi] at this
  simp only [Option.getD_some] at this
  omega
/-- What ReachedFrom and IsConnected answer. -/
def reachG (r s : Int) (es : List Ed) (v : Int) : List Int := if isGr r s es && isVx s v then reachL es v else []
def conG (r s : Int) (es : List Ed) : Bool := isGr r s es && decide (((reachG r s es 0).length : Int) = s)
theorem reachG_length (r s : Int) (es : List Ed) (v : Int) : (reachG r s es v).length ≤ 40 := by
  unfold reachG
  split
  · rename_i h
    rw [Bool.and_eq_true] at h
    have hl := isGr_lim h.1
    have hv := of_decide_eq_true h.2
    have := reachL_length (endsIn_of h.1) (v := v) (by omega)
    omega
  · simp
end Go.Proofs.Ytiacnjbgobppaaa
