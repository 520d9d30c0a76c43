/- Folding, plain mathematics: merged vertices by their numbers, valid graphs stay valid, possible folds can be merged. -/
import Derived.Test.YtdeofaimgldklaaHM
import Derived.Test.YtdeofaimgldklaaJA
import Derived.Test.YtdeofaimgldklaaSGa
namespace Go.Proofs.Ytdeofaimgldklaa
open Go.RowKit
set_option linter.unusedVariables false
set_option linter.unusedSimpArgs false

theorem mergeN_put (k d : Int) (es : List Ed) : ∀ i, i ≤ es.length → mergeN k d es i = putAll [] ((es.take i).map (newE k d)) := by
  intro i
  induction i with
  | zero => intro _; simp [mergeN, putAll]
  | succ i ih =>
    intro hi
    rw [mergeN, ih (by omega), List.take_add_one, List.getElem?_eq_getElem (by omega : i < es.length), Option.toList, List.map_append, List.map_singleton, putAll_snoc, getE_el (by omega)]
theorem mergeE_put (k d : Int) (es : List Ed) : mergeE k d es = putAll [] (es.map (newE k d)) := by
  unfold mergeE
  rw [mergeN_put k d es es.length (Nat.le_refl _), List.take_length]
theorem put_asc (L : List Ed) : AscE (putAll [] L) := (putAll_spec L [] List.Pairwise.nil).1
theorem put_mem {L : List Ed} {x : Ed} : x ∈ putAll [] L ↔ x ∈ L := by
  rw [(putAll_spec L [] List.Pairwise.nil).2 x]
  simp
/-- An edge by the numbers of its vertices. -/
def mE (nm : Nat → Int) (e : Ed) : Ed := (nm e.1.toNat, e.2.1, nm e.2.2.toNat)
def resE (nm : Nat → Int) (es : List Ed) : List Ed := putAll [] (es.map (mE nm))
theorem resE_length (nm : Nat → Int) (es : List Ed) : (resE nm es).length ≤ es.length := by
  have := putAll_length (es.map (mE nm)) []
  simpa [resE] using this
theorem resE_next (nm : Nat → Int) (k d : Int) (es : List Ed) : resE (fun i => newV k d (nm i)) es = mergeE k d (resE nm es) := by
  rw [mergeE_put]
  refine ascE_ext (put_asc _) (put_asc _) fun x => ?_
  unfold resE
  rw [put_mem, put_mem]
  simp only [List.mem_map]
  constructor
  · rintro ⟨e, he, rfl⟩
    exact ⟨mE nm e, put_mem.2 (List.mem_map.2 ⟨e, he, rfl⟩), rfl⟩
  · rintro ⟨y, hy, rfl⟩
    obtain ⟨e, he, rfl⟩ := List.mem_map.1 (put_mem.1 hy)
    exact ⟨e, he, rfl⟩
theorem resE_id {es : List Ed} (h : AscE es) (hp : ∀ e ∈ es, 0 ≤ e.1 ∧ 0 ≤ e.2.2) : resE (fun i => (i : Int)) es = es := by
  refine ascE_ext (put_asc _) h fun x => ?_
  unfold resE
  rw [put_mem]
  have hm : ∀ e ∈ es, mE (fun i => (i : Int)) e = e := fun e he => by
    obtain ⟨h1, h2⟩ := hp e he
    obtain ⟨f, l, t⟩ := e
    unfold mE
    simp only at h1 h2 ⊢
    rw [Int.toNat_of_nonneg h1, Int.toNat_of_nonneg h2]
  simp only [List.mem_map]
  constructor
  · rintro ⟨e, he, rfl⟩
    rw [hm e he]; exact he
  · intro hx
    exact ⟨x, hx, hm x hx⟩
theorem wrapS {s : Int} (h : 1 ≤ s ∧ s ≤ 40) : wrap64 (s - 1) = s - 1 := by unfold wrap64; omega
theorem gr_edge {r s : Int} {es : List Ed} (h : isGr r s es = true) {e : Ed} (he : e ∈ es) : (0 ≤ e.1 ∧ e.1 < s) ∧ (0 ≤ e.2.2 ∧ e.2.2 < s) ∧ (1 ≤ e.2.1 ∧ e.2.1 ≤ r) := by
  obtain ⟨hp, _, _, h1, h2, _⟩ := isGr_iff.1 h
  obtain ⟨i, hi, rfl⟩ := List.getElem_of_mem he
  have := hp i hi
  unfold placeOk edgeOk at this
  rw [getE_el hi, wrapS (by omega)] at this
  simp only [Bool.and_eq_true, decide_eq_true_eq] at this
  omega
theorem gr_of_asc {r s : Int} {es : List Ed} (ha : AscE es) (hp : ∀ e ∈ es, (0 ≤ e.1 ∧ e.1 < s) ∧ (0 ≤ e.2.2 ∧ e.2.2 < s) ∧ (1 ≤ e.2.1 ∧ e.2.1 ≤ r)) (hr : 1 ≤ r ∧ r ≤ 3) (hs : 1 ≤ s ∧ s ≤ 40) (hl : es.length ≤ 120) : isGr r s es = true := by
  refine isGr_iff.2 ⟨fun i hi => ?_, hr.1, hr.2, hs.1, hs.2, hl⟩
  have h1 := hp _ (List.getElem_mem hi)
  unfold placeOk edgeOk
  rw [getE_el hi, wrapS (by omega)]
  simp only [Bool.and_eq_true, Bool.or_eq_true, decide_eq_true_eq]
  refine ⟨⟨⟨by omega, by omega⟩, by omega⟩, ?_⟩
  by_cases h0 : i = 0
  · exact .inl h0
  · right
    have := (List.pairwise_iff_getElem.1 ha) (i - 1) i (by omega) hi (by omega)
    rw [getE_el (by omega : i - 1 < es.length)]
    exact this
theorem newV_in {k d v s : Int} (hk : 0 ≤ k) (hkd : k < d) (hd : d < s) (hv : 0 ≤ v ∧ v < s) : 0 ≤ newV k d v ∧ newV k d v < s - 1 := by
  unfold newV
  split <;> split <;> omega
theorem merge_gr {r s k d : Int} {es : List Ed} (h : isGr r s es = true) (hk : 0 ≤ k) (hkd : k < d) (hd : d < s) : isGr r (s - 1) (mergeE k d es) = true := by
  obtain ⟨_, h1, h2, h3, h4, h5⟩ := isGr_iff.1 h
  have hl := mergeE_length k d es
  refine gr_of_asc (by rw [mergeE_put]; exact put_asc _) (fun e he => ?_) ⟨h1, h2⟩ (by omega) (by omega)
  rw [mergeE_put, put_mem] at he
  obtain ⟨x, hx, rfl⟩ := List.mem_map.1 he
  obtain ⟨g1, g2, g3⟩ := gr_edge h hx
  exact ⟨newV_in hk hkd hd g1, newV_in hk hkd hd g2, g3⟩
theorem okM_iff {r s : Int} {es : List Ed} {f : tupF} : okM r s es f = true ↔ isGr r s es = true ∧ 0 ≤ f.1 ∧ f.1 < f.2 ∧ f.2 < s := by
  unfold okM
  rw [Bool.and_eq_true, decide_eq_true_eq]
theorem row_mem {es : List Ed} {i : Nat} {f : tupF} : ∀ d, f ∈ rowF es i d → ∃ j, j < d ∧ f ∈ pairF (es.getD i e0) (es.getD (i + 1 + j) e0) := by
  intro d
  induction d with
  | zero => intro h; simp [rowF] at h
  | succ d ih =>
    intro h
    rw [rowF, List.mem_append] at h
    rcases h with h | h
    · obtain ⟨j, hj, hf⟩ := ih h
      exact ⟨j, by omega, hf⟩
    · exact ⟨d, by omega, h⟩
theorem all_mem {es : List Ed} {f : tupF} : ∀ n, n ≤ es.length → f ∈ allF es n → ∃ i j, i < j ∧ j < es.length ∧ f ∈ pairF (es.getD i e0) (es.getD j e0) := by
  intro n
  induction n with
  | zero => intro _ h; simp [allF] at h
  | succ n ih =>
    intro hn h
    rw [allF, List.mem_append] at h
    rcases h with h | h
    · exact ih (by omega) h
    · obtain ⟨j, hj, hf⟩ := row_mem _ h
      exact ⟨n, n + 1 + j, by omega, by omega, hf⟩
theorem asc_lt {es : List Ed} (h : AscE es) {i j : Nat} (hij : i < j) (hj : j < es.length) : cmpE (es.getD i e0) (es.getD j e0) < 0 := by
  rw [getE_el (show i < es.length by omega), getE_el hj]
  exact (List.pairwise_iff_getElem.1 h) i j (by omega) hj hij
/-- A possible fold of a valid graph can be performed. -/
theorem folds_ok {r s : Int} {es : List Ed} (h : isGr r s es = true) {f : tupF} (hf : f ∈ foldsF es) : okM r s es f = true := by
  obtain ⟨i, j, hij, hj, hm⟩ := all_mem es.length (Nat.le_refl _) hf
  have hc := asc_lt (asc_of_gr h) hij hj
  rw [frc_pair hc] at hm
  have hi := gr_edge h (List.getElem_mem (show i < es.length by omega))
  have hjj := gr_edge h (List.getElem_mem hj)
  rw [← getE_el] at hi hjj
  generalize es.getD i e0 = a at hm hc hi
  generalize es.getD j e0 = b at hm hc hjj
  by_cases hb : frcB a b = true
  · rw [if_pos hb] at hm
    rw [List.mem_singleton] at hm
    subst hm
    refine okM_iff.2 ⟨h, ?_⟩
    obtain ⟨f, l, t⟩ := a
    obtain ⟨f', l', t'⟩ := b
    have hlt : f < f' ∨ f = f' ∧ (l < l' ∨ l = l' ∧ t < t') := by
      unfold cmpE at hc
      repeat' split at hc
      all_goals (simp only at *; omega)
    unfold frcB at hb
    simp only [Bool.and_eq_true, Bool.or_eq_true, decide_eq_true_eq] at hb
    unfold frcF
    simp only at hi hjj ⊢
    rw [if_pos hb.1]
    by_cases hff : f = f'
    · rw [if_pos hff]
      simp only
      omega
    · rw [if_neg hff, if_pos (by omega)]
      simp only
      omega
  · rw [if_neg hb] at hm
    simp at hm
theorem fold_s {r s : Int} {es : List Ed} {f : tupF} (h : okM r s es f = true) : mrS r s es f = s - 1 := by unfold mrS; rw [if_pos h]
theorem fold_e {r s : Int} {es : List Ed} {f : tupF} (h : okM r s es f = true) : mrE r s es f = mergeE f.1 f.2 es := by unfold mrE; rw [if_pos h]
end Go.Proofs.Ytdeofaimgldklaa
