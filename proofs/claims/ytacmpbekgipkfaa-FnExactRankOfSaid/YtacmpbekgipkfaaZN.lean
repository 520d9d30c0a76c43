/- Subgroups, mathematics: the trivial one, the whole group, the numbers of a core, and the program's search for a map. -/
import Derived.Test.YtacmpbekgipkfaaZM
import Derived.Test.YtacmpbekgipkfaaTP
import Derived.Test.YtacmpbekgipkfaaTG
import Derived.Test.YtacmpbekgipkfaaQG
namespace Go.Proofs.Ytacmpbekgipkfaa
open Go.RowKit
set_option linter.unusedVariables false
set_option linter.unusedSimpArgs false

/-- IsTrivial's answer. -/
def suTr (r s : Int) (es : List Ed) : Bool := isCo r s es && decide ((es.length : Int) = 0)
/-- IsWhole's answer. -/
def suWh (r s : Int) (es : List Ed) : Bool := isCo r s es && decide (s = 1) && decide ((es.length : Int) = r)
/-- The first loops of the whole group. -/
def whN : Nat → List Ed
  | 0 => []
  | k + 1 => whN k ++ [(0, (k : Int) + 1, 0)]
theorem whN_length : ∀ k, (whN k).length = k := by
  intro k
  induction k with
  | zero => rfl
  | succ k ih => rw [whN, List.length_append, ih]; rfl
theorem co_parts {r s : Int} {es : List Ed} (h : isCo r s es = true) : isFo r s es = true ∧ lf r s es < 0 ∧ cgS r s es = s ∧ cgE r s es = es := by
  unfold isCo eqG at h
  rw [Bool.and_eq_true, Bool.and_eq_true, decide_eq_true_eq, decide_eq_true_eq] at h
  exact ⟨h.1.1, h.1.2, h.2.2.1, h.2.2.2⟩
theorem co_no {r s : Int} {es : List Ed} (h : isGr r s es = false) : isCo r s es = false := by
  unfold isCo isFo
  rw [h]; rfl
theorem co_lim {r s : Int} {es : List Ed} (h : isCo r s es = true) : isGr r s es = true ∧ 1 ≤ r ∧ r ≤ 3 ∧ 1 ≤ s ∧ s ≤ 40 ∧ es.length ≤ 120 := by
  have h1 := (fo_gr (co_parts h).1).1
  exact ⟨h1, isGr_lim h1⟩
theorem suTr_eq (r s : Int) (es : List Ed) : suTr r s es = (decide (1 ≤ r ∧ r ≤ 3) && decide (s = 1 ∧ es = [])) := by
  rw [Bool.eq_iff_iff]
  unfold suTr
  rw [Bool.and_eq_true, Bool.and_eq_true, decide_eq_true_eq, decide_eq_true_eq, decide_eq_true_eq]
  constructor
  · rintro ⟨h, hl⟩
    obtain ⟨hg, h1, h2, h3, h4, h5⟩ := co_lim h
    have he : es = [] := List.length_eq_zero_iff.1 (by omega)
    subst he
    refine ⟨⟨h1, h2⟩, ?_, rfl⟩
    by_cases hs : s = 1
    · exact hs
    · exfalso
      have := lfN_no (r := r) (s := s) (es := []) (s - 1).toNat 1 (by omega) (co_parts h).2.1 1 (by omega) (by omega)
      unfold leafB at this
      rw [Bool.or_eq_false_iff] at this
      exact absurd this.1 (by decide)
  · rintro ⟨⟨h1, h2⟩, rfl, rfl⟩
    have hr : r = 1 ∨ r = 2 ∨ r = 3 := by omega
    refine ⟨?_, rfl⟩
    rcases hr with rfl | rfl | rfl <;> kernel_rfl
theorem edge_loop {r : Int} {es : List Ed} (hg : isGr r 1 es = true) {f l t : Int} (h : (f, l, t) ∈ es) : f = 0 ∧ t = 0 ∧ 1 ≤ l ∧ l ≤ r := by
  have := gr_mem8 hg h
  simp only at this
  omega
theorem loop_lt {l m : Int} (h : cmpE (0, l, 0) (0, m, 0) < 0) : l < m := by
  unfold cmpE at h
  simp only at h
  by_cases q : l < m
  · exact q
  · exfalso
    rw [if_neg (by omega), if_neg (by omega), if_neg q] at h
    split at h <;> omega
theorem whole_only {r : Int} {es : List Ed} (hg : isGr r 1 es = true) (hl : (es.length : Int) = r) : es = whN r.toNat := by
  have ha := asc_of_gr hg
  have hm := fun f l t => edge_loop hg (f := f) (l := l) (t := t)
  have h3 := (isGr_lim hg).2.1
  have h1 := (isGr_lim hg).1
  match es, hl, ha, hm with
  | [], hl, _, _ => simp at hl; omega
  | [(f, l, t)], hl, _, hm =>
    have q := hm f l t (by simp)
    simp at hl
    obtain ⟨rfl, rfl, _, _⟩ := q
    obtain rfl : r = 1 := by omega
    obtain rfl : l = 1 := by omega
    rfl
  | [(f, l, t), (f2, l2, t2)], hl, ha, hm =>
    have q := hm f l t (by simp)
    have q2 := hm f2 l2 t2 (by simp)
    simp at hl
    obtain ⟨rfl, rfl, _, _⟩ := q
    obtain ⟨rfl, rfl, _, _⟩ := q2
    obtain rfl : r = 2 := by omega
    have c := loop_lt (l := l) (m := l2) (by have := (List.pairwise_cons.1 ha).1 _ (List.mem_cons_self); exact this)
    obtain rfl : l = 1 := by omega
    obtain rfl : l2 = 2 := by omega
    rfl
  | [(f, l, t), (f2, l2, t2), (f3, l3, t3)], hl, ha, hm =>
    have q := hm f l t (by simp)
    have q2 := hm f2 l2 t2 (by simp)
    have q3 := hm f3 l3 t3 (by simp)
    simp at hl
    obtain ⟨rfl, rfl, _, _⟩ := q
    obtain ⟨rfl, rfl, _, _⟩ := q2
    obtain ⟨rfl, rfl, _, _⟩ := q3
    obtain rfl : r = 3 := by omega
    have c := loop_lt (l := l) (m := l2) (by have := (List.pairwise_cons.1 ha).1 _ (List.mem_cons_self); exact this)
    have c2 := loop_lt (l := l2) (m := l3) (by have := (List.pairwise_cons.1 (List.pairwise_cons.1 ha).2).1 _ (List.mem_cons_self); exact this)
    obtain rfl : l = 1 := by omega
    obtain rfl : l2 = 2 := by omega
    obtain rfl : l3 = 3 := by omega
    rfl
  | _ :: _ :: _ :: _ :: _, hl, _, _ => simp at hl; omega
theorem suWh_eq (r s : Int) (es : List Ed) : suWh r s es = (decide (1 ≤ r ∧ r ≤ 3) && decide (s = 1 ∧ es = whN r.toNat)) := by
  rw [Bool.eq_iff_iff]
  unfold suWh
  rw [Bool.and_eq_true, Bool.and_eq_true, Bool.and_eq_true, decide_eq_true_eq, decide_eq_true_eq, decide_eq_true_eq, decide_eq_true_eq]
  constructor
  · rintro ⟨⟨h, rfl⟩, hl⟩
    obtain ⟨hg, h1, h2, h3, h4, h5⟩ := co_lim h
    exact ⟨⟨h1, h2⟩, rfl, whole_only hg hl⟩
  · rintro ⟨⟨h1, h2⟩, rfl, rfl⟩
    have hr : r = 1 ∨ r = 2 ∨ r = 3 := by omega
    rcases hr with rfl | rfl | rfl <;> exact ⟨⟨by kernel_rfl, rfl⟩, rfl⟩
/-- The whole group's loops. -/
def whL (r : Int) : List Ed := whN (if 1 ≤ r ∧ r ≤ 3 then r else 0).toNat
theorem whL_length (r : Int) : (whL r).length ≤ 3 := by
  unfold whL
  rw [whN_length]
  split <;> omega
theorem suWh_eq2 (r s : Int) (es : List Ed) : suWh r s es = (decide (1 ≤ r ∧ r ≤ 3) && decide (s = 1 ∧ es = whL r)) := by
  rw [suWh_eq]
  by_cases h : 1 ≤ r ∧ r ≤ 3
  · unfold whL; rw [if_pos h]
  · rw [decide_eq_false h]; rfl
/-- In a core a search from the base finds the vertices in the order of their numbers. -/
theorem co_order {r s : Int} {es : List Ed} (h : isCo r s es = true) : coN es (letsN r.toNat) 40 = upN s.toNat := by
  obtain ⟨hf, _, hS, hE⟩ := co_parts h
  obtain ⟨h1, h2, _, _⟩ := order_up hf
  rw [hS, hE] at h1
  rw [hS] at h2
  have hl : cgL r s es = coN es (letsN r.toNat) 40 := by unfold cgL coL; rw [if_pos hf]
  have h3 : s.toNat = (cgL r s es).length := by omega
  rw [← hl, h3]
  exact h1
def Par (es : List Ed) (ls : List Int) (out : List Int) : Prop := ∀ j, 0 < j → j < out.length → ∃ u l, u < j ∧ l ∈ ls ∧ nxV es (out.getD u 0) l = out.getD j 0
theorem getD_app {out t : List Int} {j : Nat} (h : j < out.length) : (out ++ t).getD j 0 = out.getD j 0 := by
  rw [List.getD_eq_getElem?_getD, List.getElem?_append_left h, List.getD_eq_getElem?_getD]
theorem par_step {es : List Ed} {ls out : List Int} {i : Nat} {l : Int} (hi : i < out.length) (hl : l ∈ ls) (h : Par es ls out) : Par es ls (coS es (out.getD i 0) out l) := by
  unfold coS
  split
  · intro j h0 hj
    rw [List.length_append] at hj
    simp at hj
    by_cases hjl : j < out.length
    · obtain ⟨u, m, h1, h2, h3⟩ := h j h0 hjl
      exact ⟨u, m, h1, h2, by rw [getD_app (by omega), getD_app hjl]; exact h3⟩
    · obtain rfl : j = out.length := by omega
      refine ⟨i, l, hi, hl, ?_⟩
      rw [getD_app hi]
      generalize nxV es (out.getD i 0) l = y
      rw [List.getD_eq_getElem?_getD, List.getElem?_append_right (by omega)]
      simp
  · exact h
theorem par_row {es : List Ed} {ls : List Int} : ∀ (ms : List Int) {out : List Int} {i : Nat} {u : Int}, u = out.getD i 0 → i < out.length → (∀ l ∈ ms, l ∈ ls) → Par es ls out → Par es ls (ms.foldl (coS es u) out) := by
  intro ms
  induction ms with
  | nil => intro out i u _ _ _ h; exact h
  | cons l ms ih =>
    intro out i u hu hi hs h
    rw [List.foldl_cons]
    obtain ⟨t, ht⟩ := coS_pre8 es u out l
    have hp := par_step hi (hs l List.mem_cons_self) h
    rw [← hu, ht] at hp
    rw [ht]
    exact ih (i := i) (by rw [getD_app hi]; exact hu) (by rw [List.length_append]; omega) (fun x hx => hs x (List.mem_cons_of_mem _ hx)) hp
theorem par_all (es : List Ed) (ls : List Int) : ∀ k, Par es ls (coN es ls k) := by
  intro k
  induction k with
  | zero => intro j h0 hj; simp [coN] at hj; omega
  | succ k ih =>
    unfold coN
    split
    · rename_i hk
      rw [coR_full]
      exact par_row ls rfl hk (fun _ h => h) ih
    · exact ih
theorem co_par {r s : Int} {es : List Ed} (h : isCo r s es = true) {x : Int} (h0 : 0 < x) (hx : x < s) : ∃ u l, 0 ≤ u ∧ u < x ∧ l ∈ letsN r.toNat ∧ nxV es u l = x := by
  have hp := par_all es (letsN r.toNat) 40
  rw [co_order h] at hp
  obtain ⟨u, l, h1, h2, h3⟩ := hp x.toNat (by omega) (by rw [up_len]; omega)
  rw [up_at (by omega), up_at (by omega)] at h3
  exact ⟨(u : Int), l, by omega, by omega, h2, by rw [h3]; omega⟩
/-- Where a vertex goes, by a list. -/
def imF (im : List Int) (x : Int) : Int := im.getD x.toNat 0
/-- Vertex by vertex, in order: what the program knows. D: the letters of v that are done. -/
structure PrSt (L : List Int) (ea eb : List Ed) (s : Int) (v : Int) (D : List Int) (im : List Int) : Prop where
  ex : ∃ seen, MoSt L ea eb seen (imF im) ∧ (∀ x ∈ seen, 0 ≤ x ∧ x < s) ∧ (∀ x, 0 ≤ x → x < s → (x ∈ seen ↔ imF im x ≠ -1)) ∧
    (∀ x l, 0 ≤ x → (x < v ∧ l ∈ L ∨ x = v ∧ l ∈ D) → 0 ≤ nxV ea x l → x ∈ seen ∧ nxV ea x l ∈ seen ∧ 0 ≤ nxV eb (imF im x) l ∧ imF im (nxV ea x l) = nxV eb (imF im x) l)
  len : (im.length : Int) = s
theorem imF_set {im : List Int} {x y z : Int} (hx : 0 ≤ x) (hxl : x < (im.length : Int)) (hz : 0 ≤ z) : imF (im.set x.toNat y) z = if z = x then y else imF im z := by
  unfold imF
  rw [getD_set8]
  by_cases h : z = x
  · subst h; rw [if_pos ⟨rfl, by omega⟩, if_pos rfl]
  · rw [if_neg (by omega), if_neg h]
theorem PrSt.start {L : List Int} {ea eb : List Ed} {s : Int} (hs : 1 ≤ s) : PrSt L ea eb s 0 [] ((List.replicate s.toNat (-1)).set 0 0) where
  ex := by
    have hi := fun z (hz : 0 ≤ z) => imF_set (im := List.replicate s.toNat (-1)) (x := 0) (y := 0) (z := z) (by omega) (by rw [List.length_replicate]; omega) hz
    rw [show (0 : Int).toNat = 0 from rfl] at hi
    refine ⟨[0], MoSt.start L ea eb _ (by rw [hi 0 (by omega), if_pos rfl]), ?_, ?_, ?_⟩
    · intro x hx; simp at hx; omega
    · intro x h0 h1
      rw [hi x h0]
      by_cases e : x = 0
      · subst e; simp
      · rw [if_neg e]
        have : imF (List.replicate s.toNat (-1)) x = -1 := by
          unfold imF
          rw [List.getD_eq_getElem?_getD, List.getElem?_replicate, if_pos (by omega)]; rfl
        rw [this]; simp [e]
    · intro x l h0 h
      rcases h with h | h
      · omega
      · cases h.2
  len := by rw [List.length_set, List.length_replicate]; omega
/-- A vertex whose turn it is has been seen. -/
theorem PrSt.here {L : List Int} {ea eb : List Ed} {s v : Int} {im : List Int} (h : PrSt L ea eb s v [] im) (hv : 0 ≤ v) (hvs : v < s) (hp : ∀ x, 0 < x → x < s → ∃ u l, 0 ≤ u ∧ u < x ∧ l ∈ L ∧ nxV ea u l = x) : imF im v ≠ -1 := by
  obtain ⟨seen, h1, h2, h3, h4⟩ := h.ex
  rw [← h3 v hv hvs]
  by_cases e : v = 0
  · subst e; exact h1.base
  · obtain ⟨u, l, a, b, c, d⟩ := hp v (by omega) hvs
    have := (h4 u l a (.inl ⟨b, c⟩) (by omega)).2.1
    rw [d] at this
    exact this
theorem PrSt.skip {L : List Int} {ea eb : List Ed} {s v : Int} {D im : List Int} {l : Int} (h : PrSt L ea eb s v D im) (hn : nxV ea v l < 0) : PrSt L ea eb s v (D ++ [l]) im where
  ex := by
    obtain ⟨seen, h1, h2, h3, h4⟩ := h.ex
    refine ⟨seen, h1, h2, h3, fun x m h0 hx hx2 => ?_⟩
    rcases hx with hx | ⟨hx, hm⟩
    · exact h4 x m h0 (.inl hx) hx2
    · rcases List.mem_append.1 hm with hm | hm
      · exact h4 x m h0 (.inr ⟨hx, hm⟩) hx2
      · simp at hm; subst hm; subst hx; omega
  len := h.len
theorem PrSt.none {L : List Int} {ea eb : List Ed} {s v : Int} {D im : List Int} {l : Int} (h : PrSt L ea eb s v D im) (hv : 0 ≤ v ∧ v < s) (hi : imF im v ≠ -1) (hl : l ∈ L) (hn : 0 ≤ nxV ea v l) (hno : nxV eb (imF im v) l < 0) : morB L ea eb = false := by
  obtain ⟨seen, h1, h2, h3, h4⟩ := h.ex
  exact h1.none ((h3 v hv.1 hv.2).2 hi) hl hn hno
theorem PrSt.clash {L : List Int} {ea eb : List Ed} {s v : Int} {D im : List Int} {l : Int} (h : PrSt L ea eb s v D im) (hv : 0 ≤ v ∧ v < s) (hi : imF im v ≠ -1) (hl : l ∈ L) (hn : 0 ≤ nxV ea v l) (hns : nxV ea v l < s) (hin : imF im (nxV ea v l) ≠ -1) (hno : imF im (nxV ea v l) ≠ nxV eb (imF im v) l) : morB L ea eb = false := by
  obtain ⟨seen, h1, h2, h3, h4⟩ := h.ex
  exact h1.clash ((h3 v hv.1 hv.2).2 hi) hl hn ((h3 _ hn hns).2 hin) hno
theorem PrSt.put {L : List Int} {ea eb : List Ed} {s v : Int} {D im : List Int} {l : Int} (h : PrSt L ea eb s v D im) (hv : 0 ≤ v ∧ v < s) (hi : imF im v ≠ -1) (hl : l ∈ L) (hn : 0 ≤ nxV ea v l) (hns : nxV ea v l < s) (h2n : 0 ≤ nxV eb (imF im v) l)
    (hor : imF im (nxV ea v l) = -1 ∨ imF im (nxV ea v l) = nxV eb (imF im v) l) : PrSt L ea eb s v (D ++ [l]) (im.set (nxV ea v l).toNat (nxV eb (imF im v) l)) where
  ex := by
    obtain ⟨seen, h1, h2, h3, h4⟩ := h.ex
    have hlen := h.len
    obtain ⟨y, hy⟩ : ∃ y, y = nxV ea v l := ⟨_, rfl⟩
    obtain ⟨z, hz⟩ : ∃ z, z = nxV eb (imF im v) l := ⟨_, rfl⟩
    rw [← hy] at hn hns hor
    rw [← hz] at h2n hor
    rw [← hy, ← hz]
    have hset := fun x (hx : 0 ≤ x) => imF_set (im := im) (x := y) (y := z) (z := x) hn (by omega) hx
    have hsv := (h3 v hv.1 hv.2).2 hi
    have hvi : imF (im.set y.toNat z) v = imF im v := by
      rw [hset v hv.1]
      by_cases e : v = y
      · rw [if_pos e]
        rcases hor with q | q
        · rw [← e] at q; exact absurd q hi
        · rw [← e] at q; exact q.symm
      · rw [if_neg e]
    have hsame : ∀ x ∈ seen, imF (im.set y.toNat z) x = imF im x := by
      intro x hx
      rw [hset x (h2 x hx).1]
      by_cases e : x = y
      · rw [if_pos e]
        have q0 := (h3 x (h2 x hx).1 (h2 x hx).2).1 hx
        rw [e] at q0 ⊢
        rcases hor with q | q
        · exact absurd q q0
        · exact q.symm
      · rw [if_neg e]
    have hat : imF (im.set y.toNat z) y = z := by rw [hset y hn, if_pos rfl]
    by_cases hys : y ∈ seen
    · refine ⟨seen, ⟨h1.base, by rw [hsame 0 h1.base]; exact h1.img0, h1.rch, fun f hf x hx => by rw [hsame x hx]; exact h1.same f hf x hx⟩, h2, fun x h0 hx => ?_, fun x m h0 hx hx2 => ?_⟩
      · rw [hset x h0]
        by_cases e : x = y
        · rw [if_pos e, e]; exact ⟨fun _ => by omega, fun _ => hys⟩
        · rw [if_neg e]; exact h3 x h0 hx
      · rcases hx with hx | ⟨hx, hm⟩
        · obtain ⟨a, b, c, d⟩ := h4 x m h0 (.inl hx) hx2
          rw [hsame x a, hsame _ b]; exact ⟨a, b, c, d⟩
        · rcases List.mem_append.1 hm with hm | hm
          · obtain ⟨a, b, c, d⟩ := h4 x m h0 (.inr ⟨hx, hm⟩) hx2
            rw [hsame x a, hsame _ b]; exact ⟨a, b, c, d⟩
          · simp at hm; subst hm; subst hx
            rw [hvi, ← hy, hat, ← hz]; exact ⟨hsv, hys, h2n, rfl⟩
    · refine ⟨seen ++ [y], ?_, ?_, fun x h0 hx => ?_, fun x m h0 hx hx2 => ?_⟩
      · have := h1.grow (img' := imF (im.set y.toNat z)) hsv hl (by rw [← hy]; exact hn) (by rw [← hy]; exact hys) (by rw [← hy, ← hz]; exact hat) (fun x hx => hsame x hx)
        rw [← hy] at this; exact this
      · intro x hx
        rcases List.mem_append.1 hx with hx | hx
        · exact h2 x hx
        · simp at hx; omega
      · rw [hset x h0, List.mem_append, List.mem_singleton]
        by_cases e : x = y
        · rw [if_pos e]; exact ⟨fun _ => by omega, fun _ => .inr e⟩
        · rw [if_neg e, ← h3 x h0 hx]; exact ⟨fun q => q.resolve_right e, .inl⟩
      · rcases hx with hx | ⟨hx, hm⟩
        · obtain ⟨a, b, c, d⟩ := h4 x m h0 (.inl hx) hx2
          rw [hsame x a, hsame _ b]; exact ⟨List.mem_append_left _ a, List.mem_append_left _ b, c, d⟩
        · rcases List.mem_append.1 hm with hm | hm
          · obtain ⟨a, b, c, d⟩ := h4 x m h0 (.inr ⟨hx, hm⟩) hx2
            rw [hsame x a, hsame _ b]; exact ⟨List.mem_append_left _ a, List.mem_append_left _ b, c, d⟩
          · simp at hm; subst hm; subst hx
            rw [hvi, ← hy, hat, ← hz]; exact ⟨List.mem_append_left _ hsv, List.mem_append_right _ (by simp), h2n, rfl⟩
  len := by rw [List.length_set]; exact h.len
theorem PrSt.next {L : List Int} {ea eb : List Ed} {s v : Int} {im : List Int} (h : PrSt L ea eb s v L im) : PrSt L ea eb s (v + 1) [] im where
  ex := by
    obtain ⟨seen, h1, h2, h3, h4⟩ := h.ex
    refine ⟨seen, h1, h2, h3, fun x m h0 hx hx2 => ?_⟩
    rcases hx with ⟨hx, hm⟩ | ⟨hx, hm⟩
    · by_cases e : x = v
      · exact h4 x m h0 (.inr ⟨e, hm⟩) hx2
      · exact h4 x m h0 (.inl ⟨by omega, hm⟩) hx2
    · cases hm
  len := h.len
theorem PrSt.done {L : List Int} {ea eb : List Ed} {s : Int} {im : List Int} (h : PrSt L ea eb s s [] im) : morB L ea eb = true := by
  obtain ⟨seen, h1, h2, h3, h4⟩ := h.ex
  refine h1.done fun x hx l hl hn => ?_
  exact (h4 x l (h2 x hx).1 (.inl ⟨(h2 x hx).2, hl⟩) hn).2
/-- The model's search: the vertices seen in order, the first i of them done, and of the next one the letters D. -/
structure MdSt (L : List Int) (ea eb : List Ed) (s : Int) (seen : List Int) (i : Nat) (D : List Int) (im : List Int) : Prop where
  mo : MoSt L ea eb seen (imF im)
  rng : CoIn s.toNat seen
  old : ∀ j, j < i → ∀ l ∈ L, 0 ≤ nxV ea (seen.getD j 0) l → nxV ea (seen.getD j 0) l ∈ seen ∧ 0 ≤ nxV eb (imF im (seen.getD j 0)) l ∧ imF im (nxV ea (seen.getD j 0) l) = nxV eb (imF im (seen.getD j 0)) l
  now : ∀ l ∈ D, 0 ≤ nxV ea (seen.getD i 0) l → nxV ea (seen.getD i 0) l ∈ seen ∧ 0 ≤ nxV eb (imF im (seen.getD i 0)) l ∧ imF im (nxV ea (seen.getD i 0) l) = nxV eb (imF im (seen.getD i 0)) l
  len : (im.length : Int) = s
theorem MdSt.start {L : List Int} {ea eb : List Ed} {s : Int} (hs : 1 ≤ s) : MdSt L ea eb s [0] 0 [] (List.replicate s.toNat 0) where
  mo := MoSt.start L ea eb _ (by unfold imF; rw [List.getD_eq_getElem?_getD, List.getElem?_replicate]; split <;> rfl)
  rng := ⟨by simp, fun y hy => by simp at hy; omega⟩
  old := by intro j h; omega
  now := by intro l h; cases h
  len := by rw [List.length_replicate]; omega
theorem MdSt.next {L : List Int} {ea eb : List Ed} {s : Int} {seen : List Int} {i : Nat} {im : List Int} (h : MdSt L ea eb s seen i L im) : MdSt L ea eb s seen (i + 1) [] im where
  mo := h.mo
  rng := h.rng
  old := by
    intro j hj l hl hn
    by_cases e : j = i
    · subst e; exact h.now l hl hn
    · exact h.old j (by omega) l hl hn
  now := by intro l h; cases h
  len := h.len
theorem MdSt.done {L : List Int} {ea eb : List Ed} {s : Int} {seen : List Int} {i : Nat} {D : List Int} {im : List Int} (h : MdSt L ea eb s seen i D im) (hi : seen.length ≤ i) : morB L ea eb = true := by
  refine h.mo.done fun x hx l hl hn => ?_
  obtain ⟨j, hj, rfl⟩ := mem_getI.1 hx
  exact h.old j (by omega) l hl hn
theorem MdSt.skip {L : List Int} {ea eb : List Ed} {s : Int} {seen : List Int} {i : Nat} {D im : List Int} {l : Int} (h : MdSt L ea eb s seen i D im) (hn : nxV ea (seen.getD i 0) l < 0) : MdSt L ea eb s seen i (D ++ [l]) im where
  mo := h.mo
  rng := h.rng
  old := h.old
  now := by
    intro m hm hx
    rcases List.mem_append.1 hm with hm | hm
    · exact h.now m hm hx
    · simp at hm; subst hm; omega
  len := h.len
theorem MdSt.none {L : List Int} {ea eb : List Ed} {s : Int} {seen : List Int} {i : Nat} {D im : List Int} {l : Int} (h : MdSt L ea eb s seen i D im) (hi : i < seen.length) (hl : l ∈ L) (hn : 0 ≤ nxV ea (seen.getD i 0) l) (hno : nxV eb (imF im (seen.getD i 0)) l < 0) : morB L ea eb = false :=
  h.mo.none (mem_getI.2 ⟨i, hi, rfl⟩) hl hn hno
theorem MdSt.clash {L : List Int} {ea eb : List Ed} {s : Int} {seen : List Int} {i : Nat} {D im : List Int} {l : Int} (h : MdSt L ea eb s seen i D im) (hi : i < seen.length) (hl : l ∈ L) (hn : 0 ≤ nxV ea (seen.getD i 0) l) (hin : nxV ea (seen.getD i 0) l ∈ seen) (hno : imF im (nxV ea (seen.getD i 0) l) ≠ nxV eb (imF im (seen.getD i 0)) l) : morB L ea eb = false :=
  h.mo.clash (mem_getI.2 ⟨i, hi, rfl⟩) hl hn hin hno
theorem MdSt.same {L : List Int} {ea eb : List Ed} {s : Int} {seen : List Int} {i : Nat} {D im : List Int} {l : Int} (h : MdSt L ea eb s seen i D im) (h2n : 0 ≤ nxV eb (imF im (seen.getD i 0)) l) (hin : nxV ea (seen.getD i 0) l ∈ seen) (heq : imF im (nxV ea (seen.getD i 0) l) = nxV eb (imF im (seen.getD i 0)) l) : MdSt L ea eb s seen i (D ++ [l]) im where
  mo := h.mo
  rng := h.rng
  old := h.old
  now := by
    intro m hm hx
    rcases List.mem_append.1 hm with hm | hm
    · exact h.now m hm hx
    · simp at hm; subst hm; exact ⟨hin, h2n, heq⟩
  len := h.len
theorem MdSt.grow {L : List Int} {ea eb : List Ed} {s : Int} {seen : List Int} {i : Nat} {D im : List Int} {l : Int} (h : MdSt L ea eb s seen i D im) (hi : i < seen.length) (hl : l ∈ L) (hn : 0 ≤ nxV ea (seen.getD i 0) l) (hns : nxV ea (seen.getD i 0) l < s) (h2n : 0 ≤ nxV eb (imF im (seen.getD i 0)) l) (hnew : nxV ea (seen.getD i 0) l ∉ seen) :
    MdSt L ea eb s (seen ++ [nxV ea (seen.getD i 0) l]) i (D ++ [l]) (im.set (nxV ea (seen.getD i 0) l).toNat (nxV eb (imF im (seen.getD i 0)) l)) := by
  have hlen := h.len
  have hold := h.old
  have hnow := h.now
  have hu : seen.getD i 0 ∈ seen := mem_getI.2 ⟨i, hi, rfl⟩
  obtain ⟨u, hue⟩ : ∃ u, u = seen.getD i 0 := ⟨_, rfl⟩
  rw [← hue] at hn hns h2n hnew hnow hu ⊢
  obtain ⟨y, hy⟩ : ∃ y, y = nxV ea u l := ⟨_, rfl⟩
  obtain ⟨z, hz⟩ : ∃ z, z = nxV eb (imF im u) l := ⟨_, rfl⟩
  rw [← hy] at hn hns hnew
  rw [← hz] at h2n
  rw [← hy, ← hz]
  have hset := fun x (hx : 0 ≤ x) => imF_set (im := im) (x := y) (y := z) (z := x) hn (by omega) hx
  have hsame : ∀ x ∈ seen, imF (im.set y.toNat z) x = imF im x := by
    intro x hx
    have hb := h.rng.2 x hx
    rw [hset x hb.1, if_neg (by intro e; subst e; exact hnew hx)]
  have hat : imF (im.set y.toNat z) y = z := by rw [hset y hn, if_pos rfl]
  have hui : (seen ++ [y]).getD i 0 = u := by rw [getD_app hi, hue]
  refine ⟨?_, ⟨?_, ?_⟩, ?_, ?_, by rw [List.length_set]; exact hlen⟩
  · have := h.mo.grow (img' := imF (im.set y.toNat z)) hu hl (by rw [← hy]; exact hn) (by rw [← hy]; exact hnew) (by rw [← hy, ← hz]; exact hat) (fun x hx => hsame x hx)
    rw [← hy] at this; exact this
  · rw [List.nodup_append]
    exact ⟨h.rng.1, by simp, fun a ha b hb => by rw [List.mem_singleton] at hb; subst hb; intro e; subst e; exact hnew ha⟩
  · intro x hx
    rcases List.mem_append.1 hx with hx | hx
    · exact h.rng.2 x hx
    · simp at hx; omega
  · intro j hj m hm hx
    rw [getD_app (by omega)] at hx ⊢
    obtain ⟨a, b, c⟩ := hold j hj m hm hx
    have hjs : seen.getD j 0 ∈ seen := mem_getI.2 ⟨j, by omega, rfl⟩
    rw [hsame _ hjs, hsame _ a]
    exact ⟨List.mem_append_left _ a, b, c⟩
  · intro m hm hx
    rw [hui] at hx ⊢
    rw [hsame u hu]
    rcases List.mem_append.1 hm with hm | hm
    · obtain ⟨a, b, c⟩ := hnow m hm hx
      rw [hsame _ a]; exact ⟨List.mem_append_left _ a, b, c⟩
    · simp at hm; subst hm
      rw [← hy, ← hz, hat]; exact ⟨List.mem_append_right _ (by simp), h2n, rfl⟩
/-- IsInside's answer. -/
noncomputable def suIn (r s : Int) (ea : List Ed) (r' s' : Int) (eb : List Ed) : Bool := isCo r s ea && isCo r' s' eb && decide (r = r') && morB (letsN r.toNat) ea eb
end Go.Proofs.Ytacmpbekgipkfaa
