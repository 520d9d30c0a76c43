/- The search by breadth, the model: l5Letters, the rows that l5Search keeps. -/
import Derived.Test.YtacmpbekgipkfaaRK
import Derived.Test.YtacmpbekgipkfaaQE
import Derived.Maps.AppendAt
import Derived.Test.YtacmpbekgipkfaaPAT
namespace Go.Proofs.Ytacmpbekgipkfaa
open Go.RowKit
set_option linter.unusedVariables false
set_option linter.unusedSimpArgs false

/-- Block G is a row of N bools that marks the members of L. -/
def BoolsN (w : World) (G N : Nat) (L : List Int) : Prop :=
  ∃ cur : Array Value, w.heap[G]? = some (.cells cur 4 (0, 0)) ∧ cur.size = N ∧ ∀ u : Nat, u < N → cur[u]? = some (.bool (decide ((u : Int) ∈ L)))
theorem BoolsN.cell {w : World} {G N : Nat} {L : List Int} (h : BoolsN w G N L) (u : Nat) (hu : u < N) : w.cell? ⟨G, u, none⟩ = some (.bool (decide ((u : Int) ∈ L))) := by
  obtain ⟨cur, hh, hs, hc⟩ := h
  have := cell_of_heap hh u
  rw [this]; exact hc u hu
theorem BoolsN.frozen {w : World} {G N : Nat} {L : List Int} (h : BoolsN w G N L) (u : Nat) : w.frozen? ⟨G, u, none⟩ = false := by
  obtain ⟨cur, hh, hs, hc⟩ := h
  exact frozen_of_row w G u cur _ hh
theorem BoolsN.lt {w : World} {G N : Nat} {L : List Int} (h : BoolsN w G N L) : G < w.heap.size := by
  obtain ⟨cur, hh, hs, hc⟩ := h
  exact (Array.getElem?_eq_some_iff.1 hh).1
theorem BoolsN.keep {w w' : World} {G N : Nat} {L : List Int} (h : BoolsN w G N L) (hb : w'.heap[G]? = w.heap[G]?) : BoolsN w' G N L := by
  obtain ⟨cur, hh, hs, hc⟩ := h
  exact ⟨cur, by rw [hb]; exact hh, hs, hc⟩
theorem BoolsN.set {w : World} {G N : Nat} {L L' : List Int} (h : BoolsN w G N L) (x : Nat) (hx : x < N) (hL : ∀ u : Nat, u < N → ((u : Int) ∈ L' ↔ (u : Int) ∈ L ∨ u = x)) : BoolsN (w.setCell ⟨G, x, none⟩ (.bool true)) G N L' := by
  obtain ⟨cur, hh, hs, hc⟩ := h
  refine ⟨cur.setIfInBounds x (.bool true), heap_setCell_same w G x cur _ _ hh, by simpa using hs, fun u hu => ?_⟩
  by_cases hux : u = x
  · subst hux
    rw [Array.getElem?_setIfInBounds_self_of_lt (by omega)]
    rw [decide_eq_true ((hL u hu).2 (.inr rfl))]
  · rw [Array.getElem?_setIfInBounds_ne (by omega), hc u hu]
    have := hL u hu
    by_cases hm : (u : Int) ∈ L
    · rw [decide_eq_true hm, decide_eq_true (this.2 (.inl hm))]
    · rw [decide_eq_false hm, decide_eq_false (fun h => by rcases this.1 h with h | h <;> contradiction)]
/-- Block H is a row of N slices: at each found vertex lies its word, in a block that is none of G, H and the queue's. -/
def WordsAt (w : World) (G H N : Nat) (qb : Option Nat) (S : List Ar) : Prop :=
  ∃ cur : Array Value, w.heap[H]? = some (.cells cur 36 (0, 0)) ∧ cur.size = N ∧ ∀ j, j < S.length → ∃ v, cur[(S.getD j d0).1.1.toNat]? = some v ∧ ReadI w.heap.size w v (S.getD j d0).2 ∧ ∀ b, v.ownBlock = some b → b < w.heap.size ∧ b ≠ G ∧ b ≠ H ∧ qb ≠ some b
theorem ReadI.other {w w' : World} {v : Value} {zs : List Int} (h : ReadI w.heap.size w v zs) (hsz : w.heap.size ≤ w'.heap.size) (hb : ∀ b, v.ownBlock = some b → w'.heap[b]? = w.heap[b]?) : ReadI w'.heap.size w' v zs := by
  obtain ⟨hl, a, cap, rfl, hnil, hc⟩ := h
  refine ⟨hl, a, cap, rfl, hnil, hc.imp id ?_⟩
  rintro ⟨b, off, rfl, hB, hcell⟩
  exact ⟨b, off, rfl, by omega, fun i hi => by rw [World.cell?_of_block (w := w) (a := ⟨b, off + i, none⟩) (hb b rfl)]; exact hcell i hi⟩
theorem WordsAt.keep {w w' : World} {G H N : Nat} {qb qb' : Option Nat} {S : List Ar} (h : WordsAt w G H N qb S) (hsz : w.heap.size ≤ w'.heap.size) (hH : w'.heap[H]? = w.heap[H]?)
    (hb : ∀ b, b < w.heap.size → b ≠ G → b ≠ H → qb ≠ some b → w'.heap[b]? = w.heap[b]? ∧ qb' ≠ some b) : WordsAt w' G H N qb' S := by
  obtain ⟨cur, hh, hs, hc⟩ := h
  refine ⟨cur, by rw [hH]; exact hh, hs, fun j hj => ?_⟩
  obtain ⟨v, h1, h2, h3⟩ := hc j hj
  refine ⟨v, h1, h2.other hsz (fun b hbb => ?_), fun b hbb => ?_⟩
  · obtain ⟨q1, q2, q3, q4⟩ := h3 b hbb
    exact (hb b q1 q2 q3 q4).1
  · obtain ⟨q1, q2, q3, q4⟩ := h3 b hbb
    exact ⟨by omega, q2, q3, (hb b q1 q2 q3 q4).2⟩
theorem WordsAt.put {w : World} {G H N : Nat} {qb : Option Nat} {S : List Ar} (h : WordsAt w G H N qb S) {y l i : Int} {wd : List Int} {v : Value} (hy : 0 ≤ y) (hyN : y.toNat < N) (hvert : ∀ j, j < S.length → 0 ≤ (S.getD j d0).1.1)
    (hn : y ∉ vts S) (hr : ReadI w.heap.size w v wd) (hv : ∀ b, v.ownBlock = some b → b < w.heap.size ∧ b ≠ G ∧ b ≠ H ∧ qb ≠ some b) :
    WordsAt (w.setCell ⟨H, y.toNat, none⟩ v) G H N qb (S ++ [((y, l, i), wd)]) := by
  obtain ⟨cur, hh, hs, hc⟩ := h
  have hsz : (w.setCell ⟨H, y.toNat, none⟩ v).heap.size = w.heap.size := setCell_size _ _ _
  refine ⟨cur.setIfInBounds y.toNat v, heap_setCell_same w H y.toNat cur _ _ hh, by simpa using hs, fun j hj => ?_⟩
  have hoth : ∀ b, b ≠ H → (w.setCell ⟨H, y.toNat, none⟩ v).heap[b]? = w.heap[b]? := fun b hb => heap_setCell_other _ _ _ _ hb
  have hcase : j < S.length ∨ j = S.length := by simp at hj; omega
  rcases hcase with hj | rfl
  · rw [getD_left hj]
    obtain ⟨u, h1, h2, h3⟩ := hc j hj
    have hne : (S.getD j d0).1.1 ≠ y := fun he => hn (mem_vts.2 ⟨j, hj, he⟩)
    have h0 := hvert j hj
    refine ⟨u, by rw [Array.getElem?_setIfInBounds_ne (by omega)]; exact h1, h2.other (by omega) (fun b hb => hoth b (h3 b hb).2.2.1), fun b hb => by rw [hsz]; exact h3 b hb⟩
  · rw [getD_last]
    refine ⟨v, by rw [Array.getElem?_setIfInBounds_self_of_lt (by omega)], hr.other (by omega) (fun b hb => hoth b (hv b hb).2.2.1), fun b hb => by rw [hsz]; exact hv b hb⟩
theorem WordsAt.cell {w : World} {G H N : Nat} {qb : Option Nat} {S : List Ar} (h : WordsAt w G H N qb S) (j : Nat) (hj : j < S.length) : ∃ v, w.cell? ⟨H, (S.getD j d0).1.1.toNat, none⟩ = some v ∧ ReadI w.heap.size w v (S.getD j d0).2 := by
  obtain ⟨cur, hh, hs, hc⟩ := h
  obtain ⟨v, h1, h2, _⟩ := hc j hj
  exact ⟨v, by rw [cell_of_heap hh]; exact h1, h2⟩
theorem WordsAt.frozen {w : World} {G H N : Nat} {qb : Option Nat} {S : List Ar} (h : WordsAt w G H N qb S) (u : Nat) : w.frozen? ⟨H, u, none⟩ = false := by
  obtain ⟨cur, hh, hs, hc⟩ := h
  exact frozen_of_row w H u cur _ hh
theorem WordsAt.some {w : World} {G H N : Nat} {qb : Option Nat} {S : List Ar} (h : WordsAt w G H N qb S) (u : Nat) (hu : u < N) : ∃ v, w.cell? ⟨H, u, none⟩ = some v := by
  obtain ⟨cur, hh, hs, hc⟩ := h
  exact ⟨_, by rw [cell_of_heap hh]; exact Array.getElem?_eq_getElem (by omega)⟩
/-- What l5Search keeps. -/
structure SearchSt (w : World) (base G H N : Nat) (oq : Value) (S : List Ar) : Prop where
  seen : BoolsN w G N (vts S)
  words : WordsAt w G H N oq.ownBlock S
  queue : OwnsI w base oq (vts S)
  qG : oq.ownBlock ≠ some G
  qH : oq.ownBlock ≠ some H
  GH : G ≠ H
  Hlt : H < w.heap.size
end Go.Proofs.Ytacmpbekgipkfaa
