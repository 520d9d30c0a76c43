/- Inclusions of subgroups, mathematics: the map of vertices that one folded graph's edges force into another one. -/
import Derived.Test.YtacmpbekgipkfaaQD
import Derived.Test.YtacmpbekgipkfaaLET
namespace Go.Proofs.Ytacmpbekgipkfaa
open Go.RowKit
set_option linter.unusedVariables false
set_option linter.unusedSimpArgs false

/-- Vertices that are reached from the base by letters of L. -/
inductive Rch (L : List Int) (ea : List Ed) : Int → Prop
  | zero : Rch L ea 0
  | step {x l : Int} : Rch L ea x → l ∈ L → 0 ≤ nxV ea x l → Rch L ea (nxV ea x l)
/-- A map of vertices that keeps the base and every edge. -/
def Mor (L : List Int) (ea eb : List Ed) (f : Int → Int) : Prop :=
  f 0 = 0 ∧ ∀ x l, Rch L ea x → l ∈ L → 0 ≤ nxV ea x l → 0 ≤ nxV eb (f x) l ∧ f (nxV ea x l) = nxV eb (f x) l
open Classical in
/-- Is there such a map? -/
noncomputable def morB (L : List Int) (ea eb : List Ed) : Bool := decide (∃ f, Mor L ea eb f)
theorem morB_iff {L : List Int} {ea eb : List Ed} : morB L ea eb = true ↔ ∃ f, Mor L ea eb f := by
  unfold morB
  simp
/-- What a search knows: the vertices seen, and where they go. -/
structure MoSt (L : List Int) (ea eb : List Ed) (seen : List Int) (img : Int → Int) : Prop where
  base : 0 ∈ seen
  img0 : img 0 = 0
  rch : ∀ x ∈ seen, Rch L ea x
  same : ∀ f, Mor L ea eb f → ∀ x ∈ seen, f x = img x
theorem MoSt.start (L : List Int) (ea eb : List Ed) (img : Int → Int) (h : img 0 = 0) : MoSt L ea eb [0] img where
  base := by simp
  img0 := h
  rch := by intro x hx; simp at hx; subst hx; exact .zero
  same := by intro f hf x hx; simp at hx; subst hx; rw [hf.1, h]
/-- No edge answers: there is no such map. -/
theorem MoSt.none {L : List Int} {ea eb : List Ed} {seen : List Int} {img : Int → Int} (h : MoSt L ea eb seen img) {x l : Int} (hx : x ∈ seen) (hl : l ∈ L) (hn : 0 ≤ nxV ea x l) (hno : nxV eb (img x) l < 0) : morB L ea eb = false := by
  unfold morB
  rw [decide_eq_false_iff_not]
  rintro ⟨f, hf⟩
  have h1 := hf.2 x l (h.rch x hx) hl hn
  rw [h.same f hf x hx] at h1
  omega
/-- An edge leads elsewhere: there is no such map. -/
theorem MoSt.clash {L : List Int} {ea eb : List Ed} {seen : List Int} {img : Int → Int} (h : MoSt L ea eb seen img) {x l : Int} (hx : x ∈ seen) (hl : l ∈ L) (hn : 0 ≤ nxV ea x l) (hin : nxV ea x l ∈ seen) (hno : img (nxV ea x l) ≠ nxV eb (img x) l) : morB L ea eb = false := by
  unfold morB
  rw [decide_eq_false_iff_not]
  rintro ⟨f, hf⟩
  have h1 := hf.2 x l (h.rch x hx) hl hn
  rw [h.same f hf x hx, h.same f hf _ hin] at h1
  exact hno h1.2
/-- A vertex seen for the first time. -/
theorem MoSt.grow {L : List Int} {ea eb : List Ed} {seen : List Int} {img img' : Int → Int} (h : MoSt L ea eb seen img) {x l : Int} (hx : x ∈ seen) (hl : l ∈ L) (hn : 0 ≤ nxV ea x l) (hnew : nxV ea x l ∉ seen)
    (hat : img' (nxV ea x l) = nxV eb (img x) l) (hel : ∀ z ∈ seen, img' z = img z) : MoSt L ea eb (seen ++ [nxV ea x l]) img' where
  base := List.mem_append_left _ h.base
  img0 := by rw [hel 0 h.base, h.img0]
  rch := by
    intro z hz
    rcases List.mem_append.1 hz with hz | hz
    · exact h.rch z hz
    · simp at hz; subst hz; exact .step (h.rch x hx) hl hn
  same := by
    intro f hf z hz
    rcases List.mem_append.1 hz with hz | hz
    · rw [hel z hz]; exact h.same f hf z hz
    · simp at hz; subst hz
      rw [hat, (hf.2 x l (h.rch x hx) hl hn).2, h.same f hf x hx]
/-- All edges of what was seen are kept: there is such a map. -/
theorem MoSt.done {L : List Int} {ea eb : List Ed} {seen : List Int} {img : Int → Int} (h : MoSt L ea eb seen img)
    (hall : ∀ x ∈ seen, ∀ l ∈ L, 0 ≤ nxV ea x l → nxV ea x l ∈ seen ∧ 0 ≤ nxV eb (img x) l ∧ img (nxV ea x l) = nxV eb (img x) l) : morB L ea eb = true := by
  rw [morB_iff]
  have hs : ∀ x, Rch L ea x → x ∈ seen := by
    intro x hx
    induction hx with
    | zero => exact h.base
    | step _ hl hn ih => exact (hall _ ih _ hl hn).1
  exact ⟨img, h.img0, fun x l hx hl hn => (hall x (hs x hx) l hl hn).2⟩
end Go.Proofs.Ytacmpbekgipkfaa
