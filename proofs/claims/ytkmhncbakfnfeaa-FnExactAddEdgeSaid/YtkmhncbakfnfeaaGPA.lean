/- Plain mathematics of graphs: an edge in a place of its own. -/
import Derived.Test.YtkmhncbakfnfeaaGS11
import Derived.Test.YtkmhncbakfnfeaaGP7
namespace Go.Proofs.Ytkmhncbakfnfeaa
open Go.RowKit
set_option linter.unusedVariables false

theorem placeOk_at {r s : Int} {es : List Ed} {i : Nat} (h : placeOk r s es i = true) : edgeOk r s (es.getD i e0) = true ∧ (0 < i → cmpE (es.getD (i - 1) e0) (es.getD i e0) < 0) := by
  unfold placeOk at h
  simp only [Bool.and_eq_true, Bool.or_eq_true, decide_eq_true_eq] at h
  exact ⟨h.1, fun hi => by rcases h.2 with h0 | h1; omega; exact h1⟩
theorem getE_of {es : List Ed} {i : Nat} (h : i < es.length) : es.getD i e0 = es[i] := by rw [List.getD_eq_getElem?_getD, List.getElem?_eq_getElem h]; rfl
/-- A valid graph: every edge fits, all are in order. -/
theorem isGr_iff2 {r s : Int} {es : List Ed} : isGr r s es = true ↔ (∀ e ∈ es, edgeOk r s e = true) ∧ es.Pairwise (fun a b => cmpE a b < 0) ∧ 1 ≤ r ∧ r ≤ 3 ∧ 1 ≤ s ∧ s ≤ 40 ∧ es.length ≤ 120 := by
  rw [isGr_iff]
  constructor
  · rintro ⟨h, hr⟩
    refine ⟨?_, ?_, hr⟩
    · intro e he
      obtain ⟨i, hi, rfl⟩ := List.getElem_of_mem he
      have := (placeOk_at (h i hi)).1
      rw [getE_of hi] at this
      exact this
    · rw [List.pairwise_iff_getElem]
      have key : ∀ d i (hi : i < es.length) (hj : i + d + 1 < es.length), cmpE es[i] es[i + d + 1] < 0 := by
        intro d
        induction d with
        | zero =>
          intro i hi hj
          have := (placeOk_at (h (i + 1) (by omega))).2 (by omega)
          rw [Nat.add_sub_cancel, getE_of hi, getE_of (by omega)] at this
          exact this
        | succ d ih =>
          intro i hi hj
          have h1 := ih i hi (by omega)
          have h2 := (placeOk_at (h (i + (d + 1) + 1) hj)).2 (by omega)
          rw [Nat.add_sub_cancel, getE_of (by omega), getE_of hj] at h2
          exact cmpE_trans h1 h2
      intro i j hi hj hij
      obtain ⟨d, rfl⟩ : ∃ d, j = i + d + 1 := ⟨j - i - 1, by omega⟩
      exact key d i hi hj
  · rintro ⟨h1, h2, hr⟩
    refine ⟨fun i hi => ?_, hr⟩
    unfold placeOk
    simp only [Bool.and_eq_true, Bool.or_eq_true, decide_eq_true_eq]
    refine ⟨by rw [getE_of hi]; exact h1 _ (List.getElem_mem hi), ?_⟩
    rcases Nat.eq_zero_or_pos i with h0 | h0
    · exact .inl h0
    · right
      rw [getE_of (show i - 1 < es.length by omega), getE_of hi]
      exact (List.pairwise_iff_getElem.1 h2) (i - 1) i (by omega) hi (by omega)
theorem putE_at {e : Ed} : ∀ (es : List Ed) (p : Nat), p ≤ es.length → (∀ x ∈ es.take p, cmpE x e < 0) → (∀ y ∈ es.drop p, cmpE e y < 0) → putE e es = es.take p ++ e :: es.drop p := by
  intro es
  induction es with
  | nil => intro p hp _ _; simp at hp; subst hp; rfl
  | cons y ys ih =>
    intro p hp h1 h2
    cases p with
    | zero => exact putE_lt ys (h2 y (by simp))
    | succ p =>
      have hy : cmpE y e < 0 := h1 y (by simp)
      rw [putE_gt ys (by rw [cmpE_neg]; omega), ih p (by simpa using hp) (fun x hx => h1 x (by simp [hx])) (fun x hx => h2 x (by simpa using hx))]
      rfl
theorem putE_same (e : Ed) : ∀ es : List Ed, putE e es = es ∨ (putE e es).length = es.length + 1 := by
  intro es
  induction es with
  | nil => right; rfl
  | cons y ys ih =>
    rcases cmpE_cases e y with h | h | h
    · right; rw [putE_lt ys (by omega)]; rfl
    · left; rw [putE_eq ys h]
    · rw [putE_gt ys (by omega)]
      rcases ih with h1 | h1
      · left; rw [h1]
      · right; simp [h1]
theorem place_add {r s : Int} {es : List Ed} {e : Ed} {p : Nat} (hp : PlaceE es e p) :
    isGr r s (es.take p ++ e :: es.drop p) = addEb r s es e ∧ (addEb r s es e = true → addE r s es e = es.take p ++ e :: es.drop p) ∧ (addEb r s es e = false → addE r s es e = es) := by
  obtain ⟨hpl, hp1, hp2⟩ := hp
  have hone : addEb r s es e = true → putE e es = es.take p ++ e :: es.drop p := by
    intro h
    unfold addEb mayE at h
    simp only [Bool.and_eq_true, decide_eq_true_eq] at h
    obtain ⟨⟨hg, he, h120⟩, hlen⟩ := h
    obtain ⟨h1, h2, _⟩ := isGr_iff2.1 hg
    have hpw := List.pairwise_iff_getElem.1 h2
    have htake : ∀ x ∈ es.take p, cmpE x e < 0 := by
      intro x hx
      obtain ⟨i, hi, rfl⟩ := List.getElem_of_mem hx
      rw [List.length_take] at hi
      rw [List.getElem_take]
      have hlast := hp1 (by omega)
      rw [getE_of (show p - 1 < es.length by omega)] at hlast
      by_cases hip : i = p - 1
      · subst hip; exact hlast
      · exact cmpE_trans (hpw i (p - 1) (by omega) (by omega) (by omega)) hlast
    by_cases hpe : p < es.length
    · have hge := hp2 hpe
      rw [getE_of hpe] at hge
      have hneg := cmpE_neg es[p] e
      by_cases hz : cmpE es[p] e = 0
      · exfalso
        have heq := cmpE_zero hz
        have hsame : ∀ (l : List Ed) (q : Nat), (∀ x ∈ l.take q, cmpE x e < 0) → l[q]? = some e → putE e l = l := by
          intro l
          induction l with
          | nil => intro q _ h; simp at h
          | cons y ys ih =>
            intro q h1 h2
            cases q with
            | zero => simp at h2; subst h2; exact putE_eq ys (cmpE_self _)
            | succ q =>
              have hy : cmpE y e < 0 := h1 y (by simp)
              rw [putE_gt ys (by rw [cmpE_neg]; omega), ih q (fun x hx => h1 x (by simp [hx])) (by simpa using h2)]
        rw [hsame es p htake (by rw [List.getElem?_eq_getElem hpe, heq])] at hlen
        omega
      · refine putE_at es p hpl htake (fun y hy => ?_)
        have h0 : cmpE e es[p] < 0 := by omega
        obtain ⟨i, hi, rfl⟩ := List.getElem_of_mem hy
        rw [List.length_drop] at hi
        rw [List.getElem_drop]
        by_cases hi0 : i = 0
        · subst hi0; exact h0
        · exact cmpE_trans h0 (hpw p (p + i) hpe (by omega) (by omega))
    · exact putE_at es p hpl htake (fun y hy => by rw [List.drop_of_length_le (by omega)] at hy; cases hy)
  refine ⟨?_, ?_, ?_⟩
  · cases hb : addEb r s es e with
    | true =>
      have hput := hone hb
      unfold addEb mayE at hb
      simp only [Bool.and_eq_true, decide_eq_true_eq] at hb
      obtain ⟨⟨hg, he, h120⟩, hlen⟩ := hb
      obtain ⟨h1, h2, hr⟩ := isGr_iff2.1 hg
      rw [← hput]
      rw [isGr_iff2]
      have hle := putE_length e es
      have hins : ∀ l : List Ed, l.Pairwise (fun a b => cmpE a b < 0) → (putE e l).Pairwise (fun a b => cmpE a b < 0) ∧ ∀ x ∈ putE e l, x = e ∨ x ∈ l := by
        intro l
        induction l with
        | nil => intro _; exact ⟨by simp [putE], by simp [putE]⟩
        | cons y ys ih =>
          intro hl
          rw [List.pairwise_cons] at hl
          obtain ⟨i1, i2⟩ := ih hl.2
          rcases cmpE_cases e y with h | h | h
          · rw [putE_lt ys (by omega)]
            refine ⟨List.pairwise_cons.2 ⟨fun x hx => ?_, List.pairwise_cons.2 hl⟩, by simp⟩
            rcases List.mem_cons.1 hx with rfl | hx
            · omega
            · exact cmpE_trans (by omega) (hl.1 x hx)
          · rw [putE_eq ys h]
            exact ⟨List.pairwise_cons.2 hl, fun x hx => .inr hx⟩
          · rw [putE_gt ys (by omega)]
            refine ⟨List.pairwise_cons.2 ⟨fun x hx => ?_, i1⟩, fun x hx => ?_⟩
            · rcases i2 x hx with rfl | hx
              · rw [cmpE_neg]; omega
              · exact hl.1 x hx
            · rcases List.mem_cons.1 hx with rfl | hx
              · right; simp
              · rcases i2 x hx with h | h
                · exact .inl h
                · right; simp [h]
      obtain ⟨j1, j2⟩ := hins es h2
      refine ⟨fun x hx => ?_, j1, hr.1, hr.2.1, hr.2.2.1, hr.2.2.2.1, by omega⟩
      rcases j2 x hx with rfl | h
      · exact he
      · exact h1 x h
    | false =>
      cases hg : isGr r s (es.take p ++ e :: es.drop p) with
      | false => rfl
      | true =>
        exfalso
        obtain ⟨h1, h2, hr⟩ := isGr_iff2.1 hg
        have hsub : es.Sublist (es.take p ++ e :: es.drop p) := by
          have h := List.Sublist.append (List.Sublist.refl (es.take p)) (List.sublist_cons_self e (es.drop p))
          rw [List.take_append_drop] at h
          exact h
        have hlen : (es.take p ++ e :: es.drop p).length = es.length + 1 := by simp; omega
        have h3 := List.pairwise_append.1 h2
        have h4 := List.pairwise_cons.1 h3.2.1
        have hput := putE_at es p hpl (fun x hx => h3.2.2 x hx e (by simp)) h4.1
        have hes : isGr r s es = true := isGr_iff2.2 ⟨fun x hx => h1 x (hsub.subset hx), h2.sublist hsub, hr.1, hr.2.1, hr.2.2.1, hr.2.2.2.1, by omega⟩
        have hee : edgeOk r s e = true := h1 e (by simp)
        have : addEb r s es e = true := by
          unfold addEb mayE
          rw [hes, hee, hput, hlen]
          simp
          omega
        rw [hb] at this
        cases this
  · intro h
    have hput := hone h
    unfold addEb at h
    simp only [Bool.and_eq_true] at h
    unfold addE
    rw [if_pos h.1, hput]
  · intro h
    unfold addEb at h
    unfold addE
    by_cases hm : mayE r s es e = true
    · rw [if_pos hm]
      rw [hm] at h
      simp at h
      rcases putE_same e es with h1 | h1
      · exact h1
      · omega
    · rw [if_neg hm]
end Go.Proofs.Ytkmhncbakfnfeaa
