import Derived.Test.YtgnomlcjikfdhaaGreatJ26Me
import Derived.Test.YtgnomlcjikfdhaaGreatJ25Me
import Derived.Test.YtgnomlcjikfdhaaGreatJ2Me
import Derived.Test.YtgnomlcjikfdhaaGreatJ33Me
import Derived.Test.YtgnomlcjikfdhaaGreatJ3Me
import Derived.Test.YtgnomlcjikfdhaaGreatJ21Me
import Derived.Test.YtgnomlcjikfdhaaGreatJ12Me
namespace Go.Proofs.YtgnomlcjikfdhaaGreat
open Go.RowKit
set_option linter.unusedVariables false
set_option linter.unusedSimpArgs false
theorem o7 (r s : Int) (es : List Ed) : kP r s es r s es = true := by
 unfold kP; simp
theorem LQ {r s : Int} {es : List Ed} (hg : aK r s es = true) : bJ r (qy r s es) (sW r s es) = true ∧ lf r (qy r s es) (sW r s es) < 0 ∧ dL r (qy r s es) (sW r s es) = true := by
 have hf := FM hg; have hg2 := (jb hf).1; have ht := Nr hf; have hl := KN hg2; have h1 := wM ht; have h2 := EI ht hl; unfold qy sW; refine ⟨h1, h2, ?_⟩; obtain ⟨c1, c2⟩ := Cm r (jE r (kR r s es) (kQ r s es)) (jg r (kR r s es) (kQ r s es)); unfold dL; rw [h1, decide_eq_true h2, c1, c2, o7]; rfl
end Go.Proofs.YtgnomlcjikfdhaaGreat
namespace Go.Proofs.YtgnomlcjikfdhaaGreat
open Go.RowKit
set_option linter.unusedVariables false
set_option linter.unusedSimpArgs false
inductive Dq (L : List Int) (ea : List Ed) : Int → Prop
 | zero : Dq L ea 0
 | step {x l : Int} : Dq L ea x → l ∈ L → 0 ≤ aV ea x l → Dq L ea (aV ea x l)
def MN (L : List Int) (ea eb : List Ed) (f : Int → Int) : Prop :=
 f 0 = 0 ∧ ∀ x l, Dq L ea x → l ∈ L → 0 ≤ aV ea x l → 0 ≤ aV eb (f x) l ∧ f (aV ea x l) = aV eb (f x) l
open Classical in
noncomputable def rO (L : List Int) (ea eb : List Ed) : Bool := decide (∃ f, MN L ea eb f)
theorem IV {L : List Int} {ea eb : List Ed} : rO L ea eb = true ↔ ∃ f, MN L ea eb f := by
 unfold rO; simp
structure mY (L : List Int) (ea eb : List Ed) (seen : List Int) (img : Int → Int) : Prop where
 base : 0 ∈ seen
 img0 : img 0 = 0
 rch : ∀ x ∈ seen, Dq L ea x
 same : ∀ f, MN L ea eb f → ∀ x ∈ seen, f x = img x
theorem mY.start (L : List Int) (ea eb : List Ed) (img : Int → Int) (h : img 0 = 0) : mY L ea eb [0] img where
 base := by simp
 img0 := h
 rch := by intro x hx; simp at hx; subst hx; exact .zero
 same := by intro f hf x hx; simp at hx; subst hx; rw [hf.1, h]
theorem mY.none {L : List Int} {ea eb : List Ed} {seen : List Int} {img : Int → Int} (h : mY L ea eb seen img) {x l : Int} (hx : x ∈ seen) (hl : l ∈ L) (hn : 0 ≤ aV ea x l) (hno : aV eb (img x) l < 0) : rO L ea eb = false := by
 unfold rO; rw [decide_eq_false_iff_not]; rintro ⟨f, hf⟩; have h1 := hf.2 x l (h.rch x hx) hl hn; rw [h.same f hf x hx] at h1; omega
theorem mY.grow {L : List Int} {ea eb : List Ed} {seen : List Int} {img img' : Int → Int} (h : mY L ea eb seen img) {x l : Int} (hx : x ∈ seen) (hl : l ∈ L) (hn : 0 ≤ aV ea x l) (hnew : aV ea x l ∉ seen)
 (hat : img' (aV ea x l) = aV eb (img x) l) (hel : ∀ z ∈ seen, img' z = img z) : mY L ea eb (seen ++ [aV ea x l]) img' where
 base := List.mem_append_left _ h.base
 img0 := by rw [hel 0 h.base, h.img0]
 rch := by
  intro z hz
  rcases List.mem_append.1 hz with hz | hz
  · exact h.rch z hz
  · simp at hz; subst hz; exact .step (h.rch x hx) hl hn
 same := by
  intro f hf z hz
  rcases List.mem_append.1 hz with hz | hz
  · rw [hel z hz]; exact h.same f hf z hz
  · simp at hz; subst hz
    rw [hat, (hf.2 x l (h.rch x hx) hl hn).2, h.same f hf x hx]
theorem mY.done {L : List Int} {ea eb : List Ed} {seen : List Int} {img : Int → Int} (h : mY L ea eb seen img)
 (hall : ∀ x ∈ seen, ∀ l ∈ L, 0 ≤ aV ea x l → aV ea x l ∈ seen ∧ 0 ≤ aV eb (img x) l ∧ img (aV ea x l) = aV eb (img x) l) : rO L ea eb = true := by
 rw [IV]; have hs : ∀ x, Dq L ea x → x ∈ seen := by
  intro x hx
  induction hx with
  | zero => exact h.base
  | step _ hl hn ih => exact (hall _ ih _ hl hn).1
 exact ⟨img, h.img0, fun x l hx hl hn => (hall x (hs x hx) l hl hn).2⟩
end Go.Proofs.YtgnomlcjikfdhaaGreat
namespace Go.Proofs.YtgnomlcjikfdhaaGreat
open Go.RowKit
set_option linter.unusedVariables false
set_option linter.unusedSimpArgs false
def ql (r s : Int) (es : List Ed) : Bool := dL r s es && decide ((es.length : Int) = 0)
def oW (r s : Int) (es : List Ed) : Bool := dL r s es && decide (s = 1) && decide ((es.length : Int) = r)
def jw : Nat → List Ed
 | 0 => []
 | k + 1 => jw k ++ [(0, (k : Int) + 1, 0)]
theorem eP : ∀ k, (jw k).length = k := by
 intro k
 induction k with
 | zero => rfl
 | succ k ih => rw [jw, List.length_append, ih]; rfl
theorem jW {r s : Int} {es : List Ed} (h : dL r s es = true) : bJ r s es = true ∧ lf r s es < 0 ∧ jr r s es = s ∧ jk r s es = es := by
 unfold dL kP at h; rw [Bool.and_eq_true, Bool.and_eq_true, decide_eq_true_eq, decide_eq_true_eq] at h; exact ⟨h.1.1, h.1.2, h.2.2.1, h.2.2.2⟩
theorem qE {r s : Int} {es : List Ed} (h : dL r s es = true) : aK r s es = true ∧ 1 ≤ r ∧ r ≤ 3 ∧ 1 ≤ s ∧ s ≤ 40 ∧ es.length ≤ 120 := by
 have h1 := (jb (jW h).1).1; exact ⟨h1, aZ h1⟩
theorem yw (r s : Int) (es : List Ed) : ql r s es = (decide (1 ≤ r ∧ r ≤ 3) && decide (s = 1 ∧ es = [])) := by
 rw [Bool.eq_iff_iff]; unfold ql; rw [Bool.and_eq_true, Bool.and_eq_true, decide_eq_true_eq, decide_eq_true_eq, decide_eq_true_eq]; constructor
 · rintro ⟨h, hl⟩
   obtain ⟨hg, h1, h2, h3, h4, h5⟩ := qE h; have he : es = [] := List.length_eq_zero_iff.1 (by omega)
   subst he; refine ⟨⟨h1, h2⟩, ?_, rfl⟩; by_cases hs : s = 1
   · exact hs
   · exfalso
     have := BF (r := r) (s := s) (es := []) (s - 1).toNat 1 (by omega) (jW h).2.1 1 (by omega) (by omega)
     unfold jR at this; rw [Bool.or_eq_false_iff] at this; exact absurd this.1 (by decide)
 · rintro ⟨⟨h1, h2⟩, rfl, rfl⟩
   have hr : r = 1 ∨ r = 2 ∨ r = 3 := by omega
   refine ⟨?_, rfl⟩
   rcases hr with rfl | rfl | rfl <;> kernel_rfl
theorem Gn {r : Int} {es : List Ed} (hg : aK r 1 es = true) {f l t : Int} (h : (f, l, t) ∈ es) : f = 0 ∧ t = 0 ∧ 1 ≤ l ∧ l ≤ r := by
 have := mQ hg h; simp only at this
 omega
theorem yH {l m : Int} (h : bP (0, l, 0) (0, m, 0) < 0) : l < m := by
 unfold bP at h; simp only at h
 by_cases q : l < m
 · exact q
 · exfalso
   rw [if_neg (by omega), if_neg (by omega), if_neg q] at h
   split at h <;> omega
theorem Eu {r : Int} {es : List Ed} (hg : aK r 1 es = true) (hl : (es.length : Int) = r) : es = jw r.toNat := by
 have ha := lH hg; have hm := fun f l t => Gn hg (f := f) (l := l) (t := t)
 have h3 := (aZ hg).2.1; have h1 := (aZ hg).1
 match es, hl, ha, hm with
 | [], hl, _, _ => simp at hl; omega
 | [(f, l, t)], hl, _, hm =>
  have q := hm f l t (by simp)
  simp at hl
  obtain ⟨rfl, rfl, _, _⟩ := q; obtain rfl : r = 1 := by omega
  obtain rfl : l = 1 := by omega
  rfl
 | [(f, l, t), (f2, l2, t2)], hl, ha, hm =>
  have q := hm f l t (by simp)
  have q2 := hm f2 l2 t2 (by simp)
  simp at hl
  obtain ⟨rfl, rfl, _, _⟩ := q; obtain ⟨rfl, rfl, _, _⟩ := q2; obtain rfl : r = 2 := by omega
  have c := yH (l := l) (m := l2) (by have := (List.pairwise_cons.1 ha).1 _ (List.mem_cons_self); exact this)
  obtain rfl : l = 1 := by omega
  obtain rfl : l2 = 2 := by omega
  rfl
 | [(f, l, t), (f2, l2, t2), (f3, l3, t3)], hl, ha, hm =>
  have q := hm f l t (by simp)
  have q2 := hm f2 l2 t2 (by simp)
  have q3 := hm f3 l3 t3 (by simp)
  simp at hl
  obtain ⟨rfl, rfl, _, _⟩ := q; obtain ⟨rfl, rfl, _, _⟩ := q2; obtain ⟨rfl, rfl, _, _⟩ := q3; obtain rfl : r = 3 := by omega
  have c := yH (l := l) (m := l2) (by have := (List.pairwise_cons.1 ha).1 _ (List.mem_cons_self); exact this)
  have c2 := yH (l := l2) (m := l3) (by have := (List.pairwise_cons.1 (List.pairwise_cons.1 ha).2).1 _ (List.mem_cons_self); exact this)
  obtain rfl : l = 1 := by omega
  obtain rfl : l2 = 2 := by omega
  obtain rfl : l3 = 3 := by omega
  rfl
 | _ :: _ :: _ :: _ :: _, hl, _, _ => simp at hl; omega
theorem DU (r s : Int) (es : List Ed) : oW r s es = (decide (1 ≤ r ∧ r ≤ 3) && decide (s = 1 ∧ es = jw r.toNat)) := by
 rw [Bool.eq_iff_iff]; unfold oW; rw [Bool.and_eq_true, Bool.and_eq_true, Bool.and_eq_true, decide_eq_true_eq, decide_eq_true_eq, decide_eq_true_eq, decide_eq_true_eq]; constructor
 · rintro ⟨⟨h, rfl⟩, hl⟩
   obtain ⟨hg, h1, h2, h3, h4, h5⟩ := qE h; exact ⟨⟨h1, h2⟩, rfl, Eu hg hl⟩
 · rintro ⟨⟨h1, h2⟩, rfl, rfl⟩
   have hr : r = 1 ∨ r = 2 ∨ r = 3 := by omega
   rcases hr with rfl | rfl | rfl <;> exact ⟨⟨by kernel_rfl, rfl⟩, rfl⟩
def lQ (r : Int) : List Ed := jw (if 1 ≤ r ∧ r ≤ 3 then r else 0).toNat
theorem rf (r : Int) : (lQ r).length ≤ 3 := by
 unfold lQ; rw [eP]; split <;> omega
theorem BD (r s : Int) (es : List Ed) : oW r s es = (decide (1 ≤ r ∧ r ≤ 3) && decide (s = 1 ∧ es = lQ r)) := by
 rw [DU]; by_cases h : 1 ≤ r ∧ r ≤ 3
 · unfold lQ; rw [if_pos h]
 · rw [decide_eq_false h]; rfl
theorem BP {out t : List Int} {j : Nat} (h : j < out.length) : (out ++ t).getD j 0 = out.getD j 0 := by
 rw [gD, List.getElem?_append_left h, gD]
def eQ (im : List Int) (x : Int) : Int := im.getD x.toNat 0
structure lC (L : List Int) (ea eb : List Ed) (s : Int) (v : Int) (D : List Int) (im : List Int) : Prop where
 ex : ∃ seen, mY L ea eb seen (eQ im) ∧ (∀ x ∈ seen, 0 ≤ x ∧ x < s) ∧ (∀ x, 0 ≤ x → x < s → (x ∈ seen ↔ eQ im x ≠ -1)) ∧
  (∀ x l, 0 ≤ x → (x < v ∧ l ∈ L ∨ x = v ∧ l ∈ D) → 0 ≤ aV ea x l → x ∈ seen ∧ aV ea x l ∈ seen ∧ 0 ≤ aV eb (eQ im x) l ∧ eQ im (aV ea x l) = aV eb (eQ im x) l)
 len : (im.length : Int) = s
theorem yS {im : List Int} {x y z : Int} (hx : 0 ≤ x) (hxl : x < (im.length : Int)) (hz : 0 ≤ z) : eQ (im.set x.toNat y) z = if z = x then y else eQ im z := by
 unfold eQ; rw [pG]; by_cases h : z = x
 · subst h; rw [if_pos ⟨rfl, by omega⟩, if_pos rfl]
 · rw [if_neg (by omega), if_neg h]
theorem lC.start {L : List Int} {ea eb : List Ed} {s : Int} (hs : 1 ≤ s) : lC L ea eb s 0 [] ((List.replicate s.toNat (-1)).set 0 0) where
 ex := by
  have hi := fun z (hz : 0 ≤ z) => yS (im := List.replicate s.toNat (-1)) (x := 0) (y := 0) (z := z) (by omega) (by rw [List.length_replicate]; omega) hz
  rw [show (0 : Int).toNat = 0 from rfl] at hi
  refine ⟨[0], mY.start L ea eb _ (by rw [hi 0 (by omega), if_pos rfl]), ?_, ?_, ?_⟩
  · intro x hx; simp at hx; omega
  · intro x h0 h1
    rw [hi x h0]; by_cases e : x = 0
    · subst e; simp
    · rw [if_neg e]
      have : eQ (List.replicate s.toNat (-1)) x = -1 := by
       unfold eQ; rw [gD, List.getElem?_replicate, if_pos (by omega)]; rfl
      rw [this]; simp [e]
  · intro x l h0 h
    rcases h with h | h
    · omega
    · cases h.2
 len := by rw [List.length_set, List.length_replicate]; omega
theorem lC.skip {L : List Int} {ea eb : List Ed} {s v : Int} {D im : List Int} {l : Int} (h : lC L ea eb s v D im) (hn : aV ea v l < 0) : lC L ea eb s v (D ++ [l]) im where
 ex := by
  obtain ⟨seen, h1, h2, h3, h4⟩ := h.ex; refine ⟨seen, h1, h2, h3, fun x m h0 hx hx2 => ?_⟩
  rcases hx with hx | ⟨hx, hm⟩
  · exact h4 x m h0 (.inl hx) hx2
  · rcases List.mem_append.1 hm with hm | hm
    · exact h4 x m h0 (.inr ⟨hx, hm⟩) hx2
    · simp at hm; subst hm; subst hx; omega
 len := h.len
theorem lC.none {L : List Int} {ea eb : List Ed} {s v : Int} {D im : List Int} {l : Int} (h : lC L ea eb s v D im) (hv : 0 ≤ v ∧ v < s) (hi : eQ im v ≠ -1) (hl : l ∈ L) (hn : 0 ≤ aV ea v l) (hno : aV eb (eQ im v) l < 0) : rO L ea eb = false := by
 obtain ⟨seen, h1, h2, h3, h4⟩ := h.ex; exact h1.none ((h3 v hv.1 hv.2).2 hi) hl hn hno
theorem lC.put {L : List Int} {ea eb : List Ed} {s v : Int} {D im : List Int} {l : Int} (h : lC L ea eb s v D im) (hv : 0 ≤ v ∧ v < s) (hi : eQ im v ≠ -1) (hl : l ∈ L) (hn : 0 ≤ aV ea v l) (hns : aV ea v l < s) (h2n : 0 ≤ aV eb (eQ im v) l)
 (hor : eQ im (aV ea v l) = -1 ∨ eQ im (aV ea v l) = aV eb (eQ im v) l) : lC L ea eb s v (D ++ [l]) (im.set (aV ea v l).toNat (aV eb (eQ im v) l)) where
 ex := by
  obtain ⟨seen, h1, h2, h3, h4⟩ := h.ex; have hlen := h.len; obtain ⟨y, hy⟩ := ag (aV ea v l); obtain ⟨z, hz⟩ := ag (aV eb (eQ im v) l); rw [← hy] at hn hns hor; rw [← hz] at h2n hor; rw [← hy, ← hz]; have hset := fun x (hx : 0 ≤ x) => yS (im := im) (x := y) (y := z) (z := x) hn (by omega) hx
  have hsv := (h3 v hv.1 hv.2).2 hi; have hvi : eQ (im.set y.toNat z) v = eQ im v := by
   rw [hset v hv.1]; by_cases e : v = y
   · rw [if_pos e]
     rcases hor with q | q
     · rw [← e] at q; exact absurd q hi
     · rw [← e] at q; exact q.symm
   · rw [if_neg e]
  have hsame : ∀ x ∈ seen, eQ (im.set y.toNat z) x = eQ im x := by
   intro x hx; rw [hset x (h2 x hx).1]; by_cases e : x = y
   · rw [if_pos e]
     have q0 := (h3 x (h2 x hx).1 (h2 x hx).2).1 hx; rw [e] at q0 ⊢
     rcases hor with q | q
     · exact absurd q q0
     · exact q.symm
   · rw [if_neg e]
  have hat : eQ (im.set y.toNat z) y = z := by rw [hset y hn, if_pos rfl]
  by_cases hys : y ∈ seen
  · refine ⟨seen, ⟨h1.base, by rw [hsame 0 h1.base]; exact h1.img0, h1.rch, fun f hf x hx => by rw [hsame x hx]; exact h1.same f hf x hx⟩, h2, fun x h0 hx => ?_, fun x m h0 hx hx2 => ?_⟩
    · rw [hset x h0]
      by_cases e : x = y
      · rw [if_pos e, e]; exact ⟨fun _ => by omega, fun _ => hys⟩
      · rw [if_neg e]; exact h3 x h0 hx
    · rcases hx with hx | ⟨hx, hm⟩
      · obtain ⟨a, b, c, d⟩ := h4 x m h0 (.inl hx) hx2
        rw [hsame x a, hsame _ b]; exact ⟨a, b, c, d⟩
      · rcases List.mem_append.1 hm with hm | hm
        · obtain ⟨a, b, c, d⟩ := h4 x m h0 (.inr ⟨hx, hm⟩) hx2
          rw [hsame x a, hsame _ b]; exact ⟨a, b, c, d⟩
        · simp at hm; subst hm; subst hx
          rw [hvi, ← hy, hat, ← hz]; exact ⟨hsv, hys, h2n, rfl⟩
  · refine ⟨seen ++ [y], ?_, ?_, fun x h0 hx => ?_, fun x m h0 hx hx2 => ?_⟩
    · have := h1.grow (img' := eQ (im.set y.toNat z)) hsv hl (by rw [← hy]; exact hn) (by rw [← hy]; exact hys) (by rw [← hy, ← hz]; exact hat) (fun x hx => hsame x hx)
      rw [← hy] at this; exact this
    · intro x hx
      rcases List.mem_append.1 hx with hx | hx
      · exact h2 x hx
      · simp at hx; omega
    · rw [hset x h0, List.mem_append, List.mem_singleton]
      by_cases e : x = y
      · rw [if_pos e]; exact ⟨fun _ => by omega, fun _ => .inr e⟩
      · rw [if_neg e, ← h3 x h0 hx]; exact ⟨fun q => q.resolve_right e, .inl⟩
    · rcases hx with hx | ⟨hx, hm⟩
      · obtain ⟨a, b, c, d⟩ := h4 x m h0 (.inl hx) hx2
        rw [hsame x a, hsame _ b]; exact ⟨List.mem_append_left _ a, List.mem_append_left _ b, c, d⟩
      · rcases List.mem_append.1 hm with hm | hm
        · obtain ⟨a, b, c, d⟩ := h4 x m h0 (.inr ⟨hx, hm⟩) hx2
          rw [hsame x a, hsame _ b]; exact ⟨List.mem_append_left _ a, List.mem_append_left _ b, c, d⟩
        · simp at hm; subst hm; subst hx
          rw [hvi, ← hy, hat, ← hz]; exact ⟨List.mem_append_left _ hsv, List.mem_append_right _ (by simp), h2n, rfl⟩
 len := by rw [List.length_set]; exact h.len
theorem lC.next {L : List Int} {ea eb : List Ed} {s v : Int} {im : List Int} (h : lC L ea eb s v L im) : lC L ea eb s (v + 1) [] im where
 ex := by
  obtain ⟨seen, h1, h2, h3, h4⟩ := h.ex; refine ⟨seen, h1, h2, h3, fun x m h0 hx hx2 => ?_⟩
  rcases hx with ⟨hx, hm⟩ | ⟨hx, hm⟩
  · by_cases e : x = v
    · exact h4 x m h0 (.inr ⟨e, hm⟩) hx2
    · exact h4 x m h0 (.inl ⟨by omega, hm⟩) hx2
  · cases hm
 len := h.len
theorem lC.done {L : List Int} {ea eb : List Ed} {s : Int} {im : List Int} (h : lC L ea eb s s [] im) : rO L ea eb = true := by
 obtain ⟨seen, h1, h2, h3, h4⟩ := h.ex; refine h1.done fun x hx l hl hn => ?_
 exact (h4 x l (h2 x hx).1 (.inl ⟨(h2 x hx).2, hl⟩) hn).2
structure jP (L : List Int) (ea eb : List Ed) (s : Int) (seen : List Int) (i : Nat) (D : List Int) (im : List Int) : Prop where
 mo : mY L ea eb seen (eQ im)
 rng : iR s.toNat seen
 old : ∀ j, j < i → ∀ l ∈ L, 0 ≤ aV ea (seen.getD j 0) l → aV ea (seen.getD j 0) l ∈ seen ∧ 0 ≤ aV eb (eQ im (seen.getD j 0)) l ∧ eQ im (aV ea (seen.getD j 0) l) = aV eb (eQ im (seen.getD j 0)) l
 now : ∀ l ∈ D, 0 ≤ aV ea (seen.getD i 0) l → aV ea (seen.getD i 0) l ∈ seen ∧ 0 ≤ aV eb (eQ im (seen.getD i 0)) l ∧ eQ im (aV ea (seen.getD i 0) l) = aV eb (eQ im (seen.getD i 0)) l
 len : (im.length : Int) = s
theorem jP.start {L : List Int} {ea eb : List Ed} {s : Int} (hs : 1 ≤ s) : jP L ea eb s [0] 0 [] (List.replicate s.toNat 0) where
 mo := mY.start L ea eb _ (by unfold eQ; rw [gD, List.getElem?_replicate]; split <;> rfl)
 rng := ⟨by simp, fun y hy => by simp at hy; omega⟩
 old := by intro j h; omega
 now := by intro l h; cases h
 len := by rw [List.length_replicate]; omega
theorem jP.next {L : List Int} {ea eb : List Ed} {s : Int} {seen : List Int} {i : Nat} {im : List Int} (h : jP L ea eb s seen i L im) : jP L ea eb s seen (i + 1) [] im where
 mo := h.mo
 rng := h.rng
 old := by
  intro j hj l hl hn; by_cases e : j = i
  · subst e; exact h.now l hl hn
  · exact h.old j (by omega) l hl hn
 now := by intro l h; cases h
 len := h.len
theorem jP.done {L : List Int} {ea eb : List Ed} {s : Int} {seen : List Int} {i : Nat} {D : List Int} {im : List Int} (h : jP L ea eb s seen i D im) (hi : seen.length ≤ i) : rO L ea eb = true := by
 refine h.mo.done fun x hx l hl hn => ?_
 obtain ⟨j, hj, rfl⟩ := bI.1 hx; exact h.old j (by omega) l hl hn
theorem jP.skip {L : List Int} {ea eb : List Ed} {s : Int} {seen : List Int} {i : Nat} {D im : List Int} {l : Int} (h : jP L ea eb s seen i D im) (hn : aV ea (seen.getD i 0) l < 0) : jP L ea eb s seen i (D ++ [l]) im where
 mo := h.mo
 rng := h.rng
 old := h.old
 now := by
  intro m hm hx
  rcases List.mem_append.1 hm with hm | hm
  · exact h.now m hm hx
  · simp at hm; subst hm; omega
 len := h.len
theorem jP.none {L : List Int} {ea eb : List Ed} {s : Int} {seen : List Int} {i : Nat} {D im : List Int} {l : Int} (h : jP L ea eb s seen i D im) (hi : i < seen.length) (hl : l ∈ L) (hn : 0 ≤ aV ea (seen.getD i 0) l) (hno : aV eb (eQ im (seen.getD i 0)) l < 0) : rO L ea eb = false :=
 h.mo.none (bI.2 ⟨i, hi, rfl⟩) hl hn hno
theorem jP.same {L : List Int} {ea eb : List Ed} {s : Int} {seen : List Int} {i : Nat} {D im : List Int} {l : Int} (h : jP L ea eb s seen i D im) (h2n : 0 ≤ aV eb (eQ im (seen.getD i 0)) l) (hin : aV ea (seen.getD i 0) l ∈ seen) (heq : eQ im (aV ea (seen.getD i 0) l) = aV eb (eQ im (seen.getD i 0)) l) : jP L ea eb s seen i (D ++ [l]) im where
 mo := h.mo
 rng := h.rng
 old := h.old
 now := by
  intro m hm hx
  rcases List.mem_append.1 hm with hm | hm
  · exact h.now m hm hx
  · simp at hm; subst hm; exact ⟨hin, h2n, heq⟩
 len := h.len
theorem jP.grow {L : List Int} {ea eb : List Ed} {s : Int} {seen : List Int} {i : Nat} {D im : List Int} {l : Int} (h : jP L ea eb s seen i D im) (hi : i < seen.length) (hl : l ∈ L) (hn : 0 ≤ aV ea (seen.getD i 0) l) (hns : aV ea (seen.getD i 0) l < s) (h2n : 0 ≤ aV eb (eQ im (seen.getD i 0)) l) (hnew : aV ea (seen.getD i 0) l ∉ seen) :
 jP L ea eb s (seen ++ [aV ea (seen.getD i 0) l]) i (D ++ [l]) (im.set (aV ea (seen.getD i 0) l).toNat (aV eb (eQ im (seen.getD i 0)) l)) := by
 have hlen := h.len; have hold := h.old; have hnow := h.now; have hu : seen.getD i 0 ∈ seen := bI.2 ⟨i, hi, rfl⟩; obtain ⟨u, hue⟩ := ag (seen.getD i 0); rw [← hue] at hn hns h2n hnew hnow hu ⊢; obtain ⟨y, hy⟩ := ag (aV ea u l); obtain ⟨z, hz⟩ := ag (aV eb (eQ im u) l); rw [← hy] at hn hns hnew; rw [← hz] at h2n; rw [← hy, ← hz]; have hset := fun x (hx : 0 ≤ x) => yS (im := im) (x := y) (y := z) (z := x) hn (by omega) hx
 have hsame : ∀ x ∈ seen, eQ (im.set y.toNat z) x = eQ im x := by
  intro x hx; have hb := h.rng.2 x hx; rw [hset x hb.1, if_neg (by intro e; subst e; exact hnew hx)]
 have hat : eQ (im.set y.toNat z) y = z := by rw [hset y hn, if_pos rfl]
 have hui : (seen ++ [y]).getD i 0 = u := by rw [BP hi, hue]
 refine ⟨?_, ⟨?_, ?_⟩, ?_, ?_, by rw [List.length_set]; exact hlen⟩
 · have := h.mo.grow (img' := eQ (im.set y.toNat z)) hu hl (by rw [← hy]; exact hn) (by rw [← hy]; exact hnew) (by rw [← hy, ← hz]; exact hat) (fun x hx => hsame x hx)
   rw [← hy] at this; exact this
 · rw [List.nodup_append]
   exact ⟨h.rng.1, by simp, fun a ha b hb => by rw [List.mem_singleton] at hb; subst hb; intro e; subst e; exact hnew ha⟩
 · intro x hx
   rcases List.mem_append.1 hx with hx | hx
   · exact h.rng.2 x hx
   · simp at hx; omega
 · intro j hj m hm hx
   rw [BP (by omega)] at hx ⊢
   obtain ⟨a, b, c⟩ := hold j hj m hm hx; have hjs : seen.getD j 0 ∈ seen := bI.2 ⟨j, by omega, rfl⟩
   rw [hsame _ hjs, hsame _ a]; exact ⟨List.mem_append_left _ a, b, c⟩
 · intro m hm hx
   rw [hui] at hx ⊢; rw [hsame u hu]
   rcases List.mem_append.1 hm with hm | hm
   · obtain ⟨a, b, c⟩ := hnow m hm hx
     rw [hsame _ a]; exact ⟨List.mem_append_left _ a, b, c⟩
   · simp at hm; subst hm
     rw [← hy, ← hz, hat]; exact ⟨List.mem_append_right _ (by simp), h2n, rfl⟩
end Go.Proofs.YtgnomlcjikfdhaaGreat
