/- Edges in strict order, plain mathematics: put one by one, or sorted and made compact. -/
import Derived.Test.YtdeofaimgldklaaSF3
import Derived.Test.YtdeofaimgldklaaGS10
namespace Go.Proofs.Ytdeofaimgldklaa
open Go.RowKit
set_option linter.unusedVariables false
set_option linter.unusedSimpArgs false

abbrev AscE (es : List Ed) : Prop := es.Pairwise (fun a b => cmpE a b < 0)
theorem asc_of_gr {r s : Int} {es : List Ed} (h : isGr r s es = true) : AscE es := by
  obtain ⟨hp, _⟩ := isGr_iff.1 h
  have hstep : ∀ i, 0 < i → i < es.length → cmpE (es.getD (i - 1) e0) (es.getD i e0) < 0 := fun i h0 hi => by
    have := hp i hi
    unfold placeOk at this
    simp only [Bool.and_eq_true, Bool.or_eq_true, decide_eq_true_eq] at this
    rcases this.2 with h | h
    · omega
    · exact h
  have hfar : ∀ d i, i + d + 1 < es.length → cmpE (es.getD i e0) (es.getD (i + d + 1) e0) < 0 := by
    intro d
    induction d with
    | zero => intro i hi; exact hstep (i + 1) (by omega) hi
    | succ d ih =>
      intro i hi
      exact cmpE_trans (ih i (by omega)) (hstep (i + (d + 1) + 1) (by omega) hi)
  unfold AscE
  rw [List.pairwise_iff_getElem]
  intro i j hi hj hij
  have := hfar (j - i - 1) i (by omega)
  rw [show i + (j - i - 1) + 1 = j by omega, List.getD_eq_getElem?_getD, List.getD_eq_getElem?_getD, List.getElem?_eq_getElem hi, List.getElem?_eq_getElem hj] at this
  exact this
theorem putE_mem {e x : Ed} : ∀ {es : List Ed}, x ∈ putE e es ↔ x = e ∨ x ∈ es := by
  intro es
  induction es with
  | nil => simp [putE]
  | cons y ys ih =>
    rcases cmpE_cases e y with c | c | c
    · rw [putE_lt ys (by omega)]; simp
    · rw [putE_eq ys c]
      have := cmpE_zero c
      subst this
      simp
    · rw [putE_gt ys (by omega), List.mem_cons, ih, List.mem_cons]
      constructor
      · rintro (h | h | h)
        · exact .inr (.inl h)
        · exact .inl h
        · exact .inr (.inr h)
      · rintro (h | h | h)
        · exact .inr (.inl h)
        · exact .inl h
        · exact .inr (.inr h)
theorem putE_asc (e : Ed) : ∀ {es : List Ed}, AscE es → AscE (putE e es) := by
  intro es
  induction es with
  | nil => intro _; exact List.pairwise_singleton _ _
  | cons y ys ih =>
    intro h
    have hp := List.pairwise_cons.1 h
    rcases cmpE_cases e y with c | c | c
    · rw [putE_lt ys (by omega)]
      refine List.pairwise_cons.2 ⟨fun z hz => ?_, h⟩
      rcases List.mem_cons.1 hz with hz | hz
      · rw [hz]; omega
      · exact cmpE_trans (by omega : cmpE e y < 0) (hp.1 z hz)
    · rw [putE_eq ys c]; exact h
    · rw [putE_gt ys (by omega)]
      refine List.pairwise_cons.2 ⟨fun z hz => ?_, ih hp.2⟩
      rcases putE_mem.1 hz with hz | hz
      · rw [hz]; have := cmpE_neg e y; omega
      · exact hp.1 z hz
/-- All put, one by one. -/
def putAll (es L : List Ed) : List Ed := L.foldl (fun acc e => putE e acc) es
theorem putAll_snoc (es L : List Ed) (e : Ed) : putAll es (L ++ [e]) = putE e (putAll es L) := by unfold putAll; rw [List.foldl_append]; rfl
theorem putAll_spec : ∀ (L es : List Ed), AscE es → AscE (putAll es L) ∧ ∀ x, x ∈ putAll es L ↔ x ∈ es ∨ x ∈ L := by
  intro L
  induction L with
  | nil => intro es h; exact ⟨h, fun x => by simp [putAll]⟩
  | cons e L ih =>
    intro es h
    obtain ⟨h1, h2⟩ := ih (putE e es) (putE_asc e h)
    refine ⟨h1, fun x => ?_⟩
    show x ∈ putAll (putE e es) L ↔ _
    rw [h2, putE_mem, List.mem_cons]
    constructor
    · rintro ((h | h) | h)
      · exact .inr (.inl h)
      · exact .inl h
      · exact .inr (.inr h)
    · rintro (h | h | h)
      · exact .inl (.inr h)
      · exact .inl (.inl h)
      · exact .inr h
theorem putAll_length (L : List Ed) : ∀ es, (putAll es L).length ≤ es.length + L.length := by
  induction L with
  | nil => intro es; simp [putAll]
  | cons e L ih =>
    intro es
    have h1 := ih (putE e es)
    have h2 := putE_length e es
    show (putAll (putE e es) L).length ≤ _
    rw [List.length_cons]
    omega
theorem ascE_ext : ∀ {a b : List Ed}, AscE a → AscE b → (∀ x, x ∈ a ↔ x ∈ b) → a = b := by
  intro a
  induction a with
  | nil =>
    intro b _ _ h
    cases b with
    | nil => rfl
    | cons y ys => exact absurd ((h y).2 List.mem_cons_self) (by simp)
  | cons x xs ih =>
    intro b ha hb h
    cases b with
    | nil => exact absurd ((h x).1 List.mem_cons_self) (by simp)
    | cons y ys =>
      have hxa := List.pairwise_cons.1 ha
      have hyb := List.pairwise_cons.1 hb
      have hxy : x = y := by
        rcases List.mem_cons.1 ((h x).1 List.mem_cons_self) with e | e
        · exact e
        · rcases List.mem_cons.1 ((h y).2 List.mem_cons_self) with e2 | e2
          · exact e2.symm
          · have h1 := hyb.1 x e
            have h2 := hxa.1 y e2
            have := cmpE_neg x y
            omega
      subst hxy
      congr 1
      refine ih hxa.2 hyb.2 fun z => ⟨fun hz => ?_, fun hz => ?_⟩
      · rcases List.mem_cons.1 ((h z).1 (List.mem_cons_of_mem _ hz)) with e | e
        · subst e; have := hxa.1 z hz; rw [cmpE_self] at this; omega
        · exact e
      · rcases List.mem_cons.1 ((h z).2 (List.mem_cons_of_mem _ hz)) with e | e
        · subst e; have := hyb.1 z hz; rw [cmpE_self] at this; omega
        · exact e
theorem getE_el {es : List Ed} {i : Nat} (h : i < es.length) : es.getD i e0 = es[i] := by rw [List.getD_eq_getElem?_getD, List.getElem?_eq_getElem h]; rfl
/-- Sorted edges made compact are strictly ascending and have the same members. -/
theorem dd_spec {ds : List Ed} (hs : ds.Pairwise (fun a b => ¬ cmpE b a < 0)) : ∀ p, p ≤ ds.length → AscE (dd ds p) ∧ (∀ x, x ∈ dd ds p ↔ ∃ i, i < p ∧ x = ds.getD i e0) ∧ (0 < p → ∀ x ∈ dd ds p, x = ds.getD (p - 1) e0 ∨ cmpE x (ds.getD (p - 1) e0) < 0) := by
  intro p
  induction p with
  | zero => intro _; exact ⟨List.Pairwise.nil, fun x => by simp [dd], fun h => by omega⟩
  | succ p ih =>
    intro hp
    obtain ⟨h1, h2, h3⟩ := ih (by omega)
    by_cases hd : p = 0 ∨ ds.getD p e0 ≠ ds.getD (p - 1) e0
    · rw [dd_yes hd]
      have hlt : ∀ x ∈ dd ds p, cmpE x (ds.getD p e0) < 0 := fun x hx => by
        rcases Nat.eq_zero_or_pos p with h0 | h0
        · subst h0; simp [dd] at hx
        · have hne : ds.getD p e0 ≠ ds.getD (p - 1) e0 := by
            rcases hd with h | h
            · omega
            · exact h
          have hle : ¬ cmpE (ds.getD p e0) (ds.getD (p - 1) e0) < 0 := by
            rw [getE_el (show p < ds.length by omega), getE_el (show p - 1 < ds.length by omega)]
            exact (List.pairwise_iff_getElem.1 hs) (p - 1) p (by omega) (by omega) (by omega)
          have hn := cmpE_neg (ds.getD (p - 1) e0) (ds.getD p e0)
          have hlt : cmpE (ds.getD (p - 1) e0) (ds.getD p e0) < 0 := by
            rcases cmpE_cases (ds.getD (p - 1) e0) (ds.getD p e0) with c | c | c
            · omega
            · exact absurd (cmpE_zero c).symm hne
            · omega
          rcases h3 h0 x hx with e | e
          · rw [e]; exact hlt
          · exact cmpE_trans e hlt
      refine ⟨?_, fun x => ?_, fun _ x hx => ?_⟩
      · unfold AscE
        rw [List.pairwise_append]
        refine ⟨h1, List.pairwise_singleton _ _, fun a ha b hb => ?_⟩
        rw [List.mem_singleton] at hb
        rw [hb]; exact hlt a ha
      · rw [List.mem_append, h2, List.mem_singleton]
        constructor
        · rintro (⟨i, hi, e⟩ | e)
          · exact ⟨i, by omega, e⟩
          · exact ⟨p, by omega, e⟩
        · rintro ⟨i, hi, e⟩
          by_cases hip : i = p
          · subst hip; exact .inr e
          · exact .inl ⟨i, by omega, e⟩
      · rw [Nat.add_sub_cancel]
        rcases List.mem_append.1 hx with h | h
        · exact .inr (hlt x h)
        · exact .inl (List.mem_singleton.1 h)
    · have hp0 : p ≠ 0 := fun e => hd (.inl e)
      have he : ds.getD p e0 = ds.getD (p - 1) e0 := by
        by_cases e : ds.getD p e0 = ds.getD (p - 1) e0
        · exact e
        · exact absurd (.inr e) hd
      rw [dd_no hp0 he]
      refine ⟨h1, fun x => ?_, fun _ x hx => ?_⟩
      · rw [h2]
        constructor
        · rintro ⟨i, hi, e⟩; exact ⟨i, by omega, e⟩
        · rintro ⟨i, hi, e⟩
          by_cases hip : i = p
          · subst hip; exact ⟨i - 1, by omega, by rw [e, he]⟩
          · exact ⟨i, by omega, e⟩
      · rw [Nat.add_sub_cancel, he]
        exact h3 (by omega) x hx
theorem sort_put {es L ds : List Ed} (ha : AscE es) (hp : ds.Perm (es ++ L)) (hs : ds.Pairwise (fun a b => ¬ cmpE b a < 0)) : dd ds ds.length = putAll es L := by
  obtain ⟨h1, h2, _⟩ := dd_spec hs ds.length (Nat.le_refl _)
  obtain ⟨g1, g2⟩ := putAll_spec L es ha
  refine ascE_ext h1 g1 fun x => ?_
  rw [h2, g2, ← List.mem_append, ← hp.mem_iff]
  constructor
  · rintro ⟨i, hi, e⟩
    rw [e, getE_el hi]; exact List.getElem_mem hi
  · intro hx
    obtain ⟨i, hi, e⟩ := List.getElem_of_mem hx
    exact ⟨i, hi, by rw [getE_el hi, e]⟩
/-! ### The path -/
end Go.Proofs.Ytdeofaimgldklaa
