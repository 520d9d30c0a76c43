/- Inclusions: a row of ints that is written in its places; a step's lookup inside a region. -/
import Derived.Test.YtjnhhhnehkmfmaaZN
import Derived.Test.YtjnhhhnehkmfmaaRI
import Derived.Deep.RegionHeld3
namespace Go.Proofs.Ytjnhhhnehkmfmaa
open Go.RowKit Go.Maps
set_option linter.unusedVariables false
set_option linter.unusedSimpArgs false

/-- Block g is a row of these ints. -/
def ImAt (w : World) (g : Nat) (im : List Int) : Prop := w.heap[g]? = some (.cells (im.map iv).toArray 3 (0, 0))
theorem ImAt.cell {w : World} {g : Nat} {im : List Int} (h : ImAt w g im) {i : Nat} (hi : i < im.length) : w.cell? ⟨g, i, none⟩ = some (.int .i64 (im.getD i 0)) := by
  rw [cell_of_heap h i]
  simp [hi, iv]
theorem ImAt.frozen {w : World} {g : Nat} {im : List Int} (h : ImAt w g im) (i : Nat) : w.frozen? ⟨g, i, none⟩ = false := frozen_of_row w g i _ _ h
theorem ImAt.lt {w : World} {g : Nat} {im : List Int} (h : ImAt w g im) : g < w.heap.size := (Array.getElem?_eq_some_iff.1 h).1
theorem ImAt.set {w : World} {g : Nat} {im : List Int} (h : ImAt w g im) (i : Nat) (z : Int) : ImAt (w.setCell ⟨g, i, none⟩ (.int .i64 z)) g (im.set i z) := by
  unfold ImAt
  rw [heap_setCell_same w g i _ _ (.int .i64 z) h]
  simp [List.map_set, iv]
theorem ImAt.keep {w w' : World} {g : Nat} {im : List Int} (h : ImAt w g im) (hb : w'.heap[g]? = w.heap[g]?) : ImAt w' g im := hb.trans h
theorem ImAt.of_row {w : World} {base P n : Nat} {im : List Int} (h : w.ownsRow base 3 1 (.slice (some ⟨P, 0, none⟩) n n) n (im.map iv)) : ImAt w P im ∧ base ≤ P ∧ im.length = n := by
  obtain ⟨q1, q2 | ⟨g, cap, cur, e, hg, hh, hc, hm, hs, ht⟩⟩ := h
  · exact absurd q2.1 (by simp)
  · cases e
    have hl : im.length = n := by simpa using q1
    have hcur : cur = (im.map iv).toArray := by
      apply Array.ext'
      rw [← ht, List.take_of_length_le]
      rw [Array.length_toList]; omega
    refine ⟨?_, hg, hl⟩
    unfold ImAt
    rw [hh, hcur]
/-- All but block g stays. -/
structure OffG (g : Nat) (wl w : World) : Prop where
  size : w.heap.size = wl.heap.size
  block : ∀ j, j ≠ g → w.heap[j]? = wl.heap[j]?
  low : Below g wl w
theorem OffG.refl (g : Nat) (w : World) : OffG g w w := ⟨rfl, fun _ _ => rfl, Below.refl _ _⟩
theorem OffG.drew {g : Nat} {wl w : World} (h : OffG g wl w) : OffG g wl w.drew := ⟨h.size, h.block, below_dn h.low 1⟩
theorem OffG.set {g : Nat} {wl w : World} (h : OffG g wl w) (i : Nat) (v : Value) : OffG g wl (w.setCell ⟨g, i, none⟩ v) :=
  ⟨by simp [World.setCell, h.size], fun j hj => (Below.heap_setCell _ _ _ _ hj).trans (h.block j hj), h.low.setCell (p := ⟨g, i, none⟩) (Nat.le_refl _) v⟩
theorem OffG.cell {g : Nat} {wl w : World} (h : OffG g wl w) {b j : Nat} {v : Value} (hb : b ≠ g) (hc : wl.cell? ⟨b, j, none⟩ = some v) : w.cell? ⟨b, j, none⟩ = some v := (World.cell?_of_block (h.block b hb)).trans hc
theorem in_set {im : List Int} {i : Nat} {z : Int} (h : InR im) (hz : -9223372036854775808 ≤ z ∧ z ≤ 9223372036854775807) : InR (im.set i z) := by
  intro x hx
  rcases List.mem_or_eq_of_mem_set hx with q | q
  · exact h x q
  · subst q; exact hz
theorem imF_in {im : List Int} (h : InR im) (x : Int) : -9223372036854775808 ≤ imF im x ∧ imF im x ≤ 9223372036854775807 := by
  unfold imF
  rw [List.getD_eq_getElem?_getD]
  cases e : im[x.toNat]? with
  | none => simp
  | some y => exact h y (List.mem_of_getElem? e)
/-- A step looked up, inside a region. -/
theorem step_lookS {w : World} {o : Oper} {a : Act} {K : Act → World → Prop} {Q : Exit → Act → World → Prop} (m x : Operand) (ho : o.op = Op.lookup 55 m x true) (b : Nat) (r s : Int) (es : List Ed) (v l : Int) (bb : Bool)
    (hm : a.eval m = .map (some b)) (hx : a.eval x = .agg #[.int .i64 v, .int .i64 l]) (hown : MapS w b (2 * es.length) (stD es es.length)) (hg : isGr r s es = true) (hf : foldB es es.length = true) (hv : I64 v) (hl : I64 l) (hbb : decide (0 ≤ nxV es v l) = bb)
    (h : ∀ c : Int, (0 ≤ nxV es v l → c = nxV es v l) → K (a.put o.dst (.tuple #[.int .i64 c, .bool bb])) w) : Oper.wp Try.prog o a w K Q := by
  obtain ⟨v', ps, hrun, hv'⟩ := World.ownsMap.look_ok hown lawS Try.underlying55 (zeroInt w) (plainElem_int Try.underlying3 (by decide)) (kS_key v l hv hl)
  obtain ⟨c, rfl, hc, hwc⟩ := plainElem_int_inv Try.underlying3 hv'
  have hlook := stD_look hg hf (v := v) (l := l) hv hl
  have hat := congrArg Prod.fst hc
  have hhas : has (stD es es.length) (kS v l) = bb := by
    rw [← hbb]
    rcases hlook with ⟨hh, hy, _⟩ | ⟨hh, hy⟩
    · rw [hh, decide_eq_true hy]
    · rw [hh, decide_eq_false (by omega)]
  rw [hhas] at hrun
  unfold Oper.wp
  simp [execOp, ho, hm, hx, hrun, Result.andThen]
  refine h c (fun h0 => ?_)
  rcases hlook with ⟨hh, hy, _, hat2⟩ | ⟨hh, hy⟩
  · have e := hat2.symm.trans hat
    simpa using e.symm
  · omega
end Go.Proofs.Ytjnhhhnehkmfmaa
