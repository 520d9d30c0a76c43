import Derived.Maps.OwnOps
import Derived.Laws.CopyOwn
import Derived.Deep.RegionLaw
import Derived.Deep.LoopGhost
import Derived.Deep.RegionHeld3
import Derived.Test.YtgnomlcjikfdhaaGreatJ27Tr
import Derived.Test.YtgnomlcjikfdhaaGreatJ7Tr
import Derived.Test.YtgnomlcjikfdhaaGreatJ4Tr
import Derived.Test.YtgnomlcjikfdhaaGreatJ19Tr
import Derived.Test.YtgnomlcjikfdhaaGreatJ25Tr
import Derived.Test.YtgnomlcjikfdhaaGreatJ20Tr
import Derived.Test.YtgnomlcjikfdhaaGreatJ28Tr
import Derived.Test.YtgnomlcjikfdhaaGreatJ26Tr
import Derived.Test.YtgnomlcjikfdhaaGreatJ14Tr
namespace Go.Proofs.YtgnomlcjikfdhaaGreat
open Go.RowKit
set_option linter.unusedVariables false
set_option linter.unusedSimpArgs false
theorem getD_app {out t : List Int} {j : Nat} (h : j < out.length) : (out ++ t).getD j 0 = out.getD j 0 := by
 rw [List.getD_eq_getElem?_getD, List.getElem?_append_left h, List.getD_eq_getElem?_getD]
def imF (im : List Int) (x : Int) : Int := im.getD x.toNat 0
structure PrSt (L : List Int) (ea eb : List Ed) (s : Int) (v : Int) (D : List Int) (im : List Int) : Prop where
 ex : ∃ seen, MoSt L ea eb seen (imF im) ∧ (∀ x ∈ seen, 0 ≤ x ∧ x < s) ∧ (∀ x, 0 ≤ x → x < s → (x ∈ seen ↔ imF im x ≠ -1)) ∧
  (∀ x l, 0 ≤ x → (x < v ∧ l ∈ L ∨ x = v ∧ l ∈ D) → 0 ≤ nxV ea x l → x ∈ seen ∧ nxV ea x l ∈ seen ∧ 0 ≤ nxV eb (imF im x) l ∧ imF im (nxV ea x l) = nxV eb (imF im x) l)
 len : (im.length : Int) = s
theorem imF_set {im : List Int} {x y z : Int} (hx : 0 ≤ x) (hxl : x < (im.length : Int)) (hz : 0 ≤ z) : imF (im.set x.toNat y) z = if z = x then y else imF im z := by
 unfold imF
 rw [getD_set8]
 by_cases h : z = x
 · subst h; rw [if_pos ⟨rfl, by omega⟩, if_pos rfl]
 · rw [if_neg (by omega), if_neg h]
theorem PrSt.skip {L : List Int} {ea eb : List Ed} {s v : Int} {D im : List Int} {l : Int} (h : PrSt L ea eb s v D im) (hn : nxV ea v l < 0) : PrSt L ea eb s v (D ++ [l]) im where
 ex := by
  obtain ⟨seen, h1, h2, h3, h4⟩ := h.ex
  refine ⟨seen, h1, h2, h3, fun x m h0 hx hx2 => ?_⟩
  rcases hx with hx | ⟨hx, hm⟩
  · exact h4 x m h0 (.inl hx) hx2
  · rcases List.mem_append.1 hm with hm | hm
    · exact h4 x m h0 (.inr ⟨hx, hm⟩) hx2
    · simp at hm; subst hm; subst hx; omega
 len := h.len
theorem PrSt.none {L : List Int} {ea eb : List Ed} {s v : Int} {D im : List Int} {l : Int} (h : PrSt L ea eb s v D im) (hv : 0 ≤ v ∧ v < s) (hi : imF im v ≠ -1) (hl : l ∈ L) (hn : 0 ≤ nxV ea v l) (hno : nxV eb (imF im v) l < 0) : morB L ea eb = false := by
 obtain ⟨seen, h1, h2, h3, h4⟩ := h.ex
 exact h1.none ((h3 v hv.1 hv.2).2 hi) hl hn hno
theorem PrSt.put {L : List Int} {ea eb : List Ed} {s v : Int} {D im : List Int} {l : Int} (h : PrSt L ea eb s v D im) (hv : 0 ≤ v ∧ v < s) (hi : imF im v ≠ -1) (hl : l ∈ L) (hn : 0 ≤ nxV ea v l) (hns : nxV ea v l < s) (h2n : 0 ≤ nxV eb (imF im v) l)
 (hor : imF im (nxV ea v l) = -1 ∨ imF im (nxV ea v l) = nxV eb (imF im v) l) : PrSt L ea eb s v (D ++ [l]) (im.set (nxV ea v l).toNat (nxV eb (imF im v) l)) where
 ex := by
  obtain ⟨seen, h1, h2, h3, h4⟩ := h.ex
  have hlen := h.len
  obtain ⟨y, hy⟩ := exq (nxV ea v l)
  obtain ⟨z, hz⟩ := exq (nxV eb (imF im v) l)
  rw [← hy] at hn hns hor
  rw [← hz] at h2n hor
  rw [← hy, ← hz]
  have hset := fun x (hx : 0 ≤ x) => imF_set (im := im) (x := y) (y := z) (z := x) hn (by omega) hx
  have hsv := (h3 v hv.1 hv.2).2 hi
  have hvi : imF (im.set y.toNat z) v = imF im v := by
   rw [hset v hv.1]
   by_cases e : v = y
   · rw [if_pos e]
     rcases hor with q | q
     · rw [← e] at q; exact absurd q hi
     · rw [← e] at q; exact q.symm
   · rw [if_neg e]
  have hsame : ∀ x ∈ seen, imF (im.set y.toNat z) x = imF im x := by
   intro x hx
   rw [hset x (h2 x hx).1]
   by_cases e : x = y
   · rw [if_pos e]
     have q0 := (h3 x (h2 x hx).1 (h2 x hx).2).1 hx
     rw [e] at q0 ⊢
     rcases hor with q | q
     · exact absurd q q0
     · exact q.symm
   · rw [if_neg e]
  have hat : imF (im.set y.toNat z) y = z := by rw [hset y hn, if_pos rfl]
  by_cases hys : y ∈ seen
  · refine ⟨seen, ⟨h1.base, by rw [hsame 0 h1.base]; exact h1.img0, h1.rch, fun f hf x hx => by rw [hsame x hx]; exact h1.same f hf x hx⟩, h2, fun x h0 hx => ?_, fun x m h0 hx hx2 => ?_⟩
    · rw [hset x h0]
      by_cases e : x = y
      · rw [if_pos e, e]; exact ⟨fun _ => by omega, fun _ => hys⟩
      · rw [if_neg e]; exact h3 x h0 hx
    · rcases hx with hx | ⟨hx, hm⟩
      · obtain ⟨a, b, c, d⟩ := h4 x m h0 (.inl hx) hx2
        rw [hsame x a, hsame _ b]; exact ⟨a, b, c, d⟩
      · rcases List.mem_append.1 hm with hm | hm
        · obtain ⟨a, b, c, d⟩ := h4 x m h0 (.inr ⟨hx, hm⟩) hx2
          rw [hsame x a, hsame _ b]; exact ⟨a, b, c, d⟩
        · simp at hm; subst hm; subst hx
          rw [hvi, ← hy, hat, ← hz]; exact ⟨hsv, hys, h2n, rfl⟩
  · refine ⟨seen ++ [y], ?_, ?_, fun x h0 hx => ?_, fun x m h0 hx hx2 => ?_⟩
    · have := h1.grow (img' := imF (im.set y.toNat z)) hsv hl (by rw [← hy]; exact hn) (by rw [← hy]; exact hys) (by rw [← hy, ← hz]; exact hat) (fun x hx => hsame x hx)
      rw [← hy] at this; exact this
    · intro x hx
      rcases List.mem_append.1 hx with hx | hx
      · exact h2 x hx
      · simp at hx; omega
    · rw [hset x h0, List.mem_append, List.mem_singleton]
      by_cases e : x = y
      · rw [if_pos e]; exact ⟨fun _ => by omega, fun _ => .inr e⟩
      · rw [if_neg e, ← h3 x h0 hx]; exact ⟨fun q => q.resolve_right e, .inl⟩
    · rcases hx with hx | ⟨hx, hm⟩
      · obtain ⟨a, b, c, d⟩ := h4 x m h0 (.inl hx) hx2
        rw [hsame x a, hsame _ b]; exact ⟨List.mem_append_left _ a, List.mem_append_left _ b, c, d⟩
      · rcases List.mem_append.1 hm with hm | hm
        · obtain ⟨a, b, c, d⟩ := h4 x m h0 (.inr ⟨hx, hm⟩) hx2
          rw [hsame x a, hsame _ b]; exact ⟨List.mem_append_left _ a, List.mem_append_left _ b, c, d⟩
        · simp at hm; subst hm; subst hx
          rw [hvi, ← hy, hat, ← hz]; exact ⟨List.mem_append_left _ hsv, List.mem_append_right _ (by simp), h2n, rfl⟩
 len := by rw [List.length_set]; exact h.len
theorem PrSt.next {L : List Int} {ea eb : List Ed} {s v : Int} {im : List Int} (h : PrSt L ea eb s v L im) : PrSt L ea eb s (v + 1) [] im where
 ex := by
  obtain ⟨seen, h1, h2, h3, h4⟩ := h.ex
  refine ⟨seen, h1, h2, h3, fun x m h0 hx hx2 => ?_⟩
  rcases hx with ⟨hx, hm⟩ | ⟨hx, hm⟩
  · by_cases e : x = v
    · exact h4 x m h0 (.inr ⟨e, hm⟩) hx2
    · exact h4 x m h0 (.inl ⟨by omega, hm⟩) hx2
  · cases hm
 len := h.len
theorem PrSt.done {L : List Int} {ea eb : List Ed} {s : Int} {im : List Int} (h : PrSt L ea eb s s [] im) : morB L ea eb = true := by
 obtain ⟨seen, h1, h2, h3, h4⟩ := h.ex
 refine h1.done fun x hx l hl hn => ?_
 exact (h4 x l (h2 x hx).1 (.inl ⟨(h2 x hx).2, hl⟩) hn).2
structure MdSt (L : List Int) (ea eb : List Ed) (s : Int) (seen : List Int) (i : Nat) (D : List Int) (im : List Int) : Prop where
 mo : MoSt L ea eb seen (imF im)
 rng : CoIn s.toNat seen
 old : ∀ j, j < i → ∀ l ∈ L, 0 ≤ nxV ea (seen.getD j 0) l → nxV ea (seen.getD j 0) l ∈ seen ∧ 0 ≤ nxV eb (imF im (seen.getD j 0)) l ∧ imF im (nxV ea (seen.getD j 0) l) = nxV eb (imF im (seen.getD j 0)) l
 now : ∀ l ∈ D, 0 ≤ nxV ea (seen.getD i 0) l → nxV ea (seen.getD i 0) l ∈ seen ∧ 0 ≤ nxV eb (imF im (seen.getD i 0)) l ∧ imF im (nxV ea (seen.getD i 0) l) = nxV eb (imF im (seen.getD i 0)) l
 len : (im.length : Int) = s
theorem MdSt.next {L : List Int} {ea eb : List Ed} {s : Int} {seen : List Int} {i : Nat} {im : List Int} (h : MdSt L ea eb s seen i L im) : MdSt L ea eb s seen (i + 1) [] im where
 mo := h.mo
 rng := h.rng
 old := by
  intro j hj l hl hn
  by_cases e : j = i
  · subst e; exact h.now l hl hn
  · exact h.old j (by omega) l hl hn
 now := by intro l h; cases h
 len := h.len
theorem MdSt.done {L : List Int} {ea eb : List Ed} {s : Int} {seen : List Int} {i : Nat} {D : List Int} {im : List Int} (h : MdSt L ea eb s seen i D im) (hi : seen.length ≤ i) : morB L ea eb = true := by
 refine h.mo.done fun x hx l hl hn => ?_
 obtain ⟨j, hj, rfl⟩ := mem_getI.1 hx
 exact h.old j (by omega) l hl hn
theorem MdSt.skip {L : List Int} {ea eb : List Ed} {s : Int} {seen : List Int} {i : Nat} {D im : List Int} {l : Int} (h : MdSt L ea eb s seen i D im) (hn : nxV ea (seen.getD i 0) l < 0) : MdSt L ea eb s seen i (D ++ [l]) im where
 mo := h.mo
 rng := h.rng
 old := h.old
 now := by
  intro m hm hx
  rcases List.mem_append.1 hm with hm | hm
  · exact h.now m hm hx
  · simp at hm; subst hm; omega
 len := h.len
theorem MdSt.none {L : List Int} {ea eb : List Ed} {s : Int} {seen : List Int} {i : Nat} {D im : List Int} {l : Int} (h : MdSt L ea eb s seen i D im) (hi : i < seen.length) (hl : l ∈ L) (hn : 0 ≤ nxV ea (seen.getD i 0) l) (hno : nxV eb (imF im (seen.getD i 0)) l < 0) : morB L ea eb = false :=
 h.mo.none (mem_getI.2 ⟨i, hi, rfl⟩) hl hn hno
theorem MdSt.same {L : List Int} {ea eb : List Ed} {s : Int} {seen : List Int} {i : Nat} {D im : List Int} {l : Int} (h : MdSt L ea eb s seen i D im) (h2n : 0 ≤ nxV eb (imF im (seen.getD i 0)) l) (hin : nxV ea (seen.getD i 0) l ∈ seen) (heq : imF im (nxV ea (seen.getD i 0) l) = nxV eb (imF im (seen.getD i 0)) l) : MdSt L ea eb s seen i (D ++ [l]) im where
 mo := h.mo
 rng := h.rng
 old := h.old
 now := by
  intro m hm hx
  rcases List.mem_append.1 hm with hm | hm
  · exact h.now m hm hx
  · simp at hm; subst hm; exact ⟨hin, h2n, heq⟩
 len := h.len
theorem MdSt.grow {L : List Int} {ea eb : List Ed} {s : Int} {seen : List Int} {i : Nat} {D im : List Int} {l : Int} (h : MdSt L ea eb s seen i D im) (hi : i < seen.length) (hl : l ∈ L) (hn : 0 ≤ nxV ea (seen.getD i 0) l) (hns : nxV ea (seen.getD i 0) l < s) (h2n : 0 ≤ nxV eb (imF im (seen.getD i 0)) l) (hnew : nxV ea (seen.getD i 0) l ∉ seen) :
 MdSt L ea eb s (seen ++ [nxV ea (seen.getD i 0) l]) i (D ++ [l]) (im.set (nxV ea (seen.getD i 0) l).toNat (nxV eb (imF im (seen.getD i 0)) l)) := by
 have hlen := h.len
 have hold := h.old
 have hnow := h.now
 have hu : seen.getD i 0 ∈ seen := mem_getI.2 ⟨i, hi, rfl⟩
 obtain ⟨u, hue⟩ := exq (seen.getD i 0)
 rw [← hue] at hn hns h2n hnew hnow hu ⊢
 obtain ⟨y, hy⟩ := exq (nxV ea u l)
 obtain ⟨z, hz⟩ := exq (nxV eb (imF im u) l)
 rw [← hy] at hn hns hnew
 rw [← hz] at h2n
 rw [← hy, ← hz]
 have hset := fun x (hx : 0 ≤ x) => imF_set (im := im) (x := y) (y := z) (z := x) hn (by omega) hx
 have hsame : ∀ x ∈ seen, imF (im.set y.toNat z) x = imF im x := by
  intro x hx
  have hb := h.rng.2 x hx
  rw [hset x hb.1, if_neg (by intro e; subst e; exact hnew hx)]
 have hat : imF (im.set y.toNat z) y = z := by rw [hset y hn, if_pos rfl]
 have hui : (seen ++ [y]).getD i 0 = u := by rw [getD_app hi, hue]
 refine ⟨?_, ⟨?_, ?_⟩, ?_, ?_, by rw [List.length_set]; exact hlen⟩
 · have := h.mo.grow (img' := imF (im.set y.toNat z)) hu hl (by rw [← hy]; exact hn) (by rw [← hy]; exact hnew) (by rw [← hy, ← hz]; exact hat) (fun x hx => hsame x hx)
   rw [← hy] at this; exact this
 · rw [List.nodup_append]
   exact ⟨h.rng.1, by simp, fun a ha b hb => by rw [List.mem_singleton] at hb; subst hb; intro e; subst e; exact hnew ha⟩
 · intro x hx
   rcases List.mem_append.1 hx with hx | hx
   · exact h.rng.2 x hx
   · simp at hx; omega
 · intro j hj m hm hx
   rw [getD_app (by omega)] at hx ⊢
   obtain ⟨a, b, c⟩ := hold j hj m hm hx
   have hjs : seen.getD j 0 ∈ seen := mem_getI.2 ⟨j, by omega, rfl⟩
   rw [hsame _ hjs, hsame _ a]
   exact ⟨List.mem_append_left _ a, b, c⟩
 · intro m hm hx
   rw [hui] at hx ⊢
   rw [hsame u hu]
   rcases List.mem_append.1 hm with hm | hm
   · obtain ⟨a, b, c⟩ := hnow m hm hx
     rw [hsame _ a]; exact ⟨List.mem_append_left _ a, b, c⟩
   · simp at hm; subst hm
     rw [← hy, ← hz, hat]; exact ⟨List.mem_append_right _ (by simp), h2n, rfl⟩
end Go.Proofs.YtgnomlcjikfdhaaGreat
