import Derived.Test.YtgnomlcjikfdhaaGreatJ6Tr
import Derived.Test.YtgnomlcjikfdhaaGreatJ7Tr
namespace Go.Proofs.YtgnomlcjikfdhaaGreat
open Go.RowKit
set_option linter.unusedVariables false
set_option linter.unusedSimpArgs false
def MSt (w : World) (X base : Nat) (r sz : Int) (v : Value) (E : List Ed) : Prop :=
 w.heap[X]? = some (.cells #[.int .i64 r, .int .i64 sz, v] 26 (0, 0)) ∧ ∃ lo hi, RowS 36 3 w lo hi v E.length (flatE E) ∧ base ≤ lo ∧ hi ≤ w.heap.size ∧ (hi ≤ X ∨ X < lo)
theorem MSt.put {w w' : World} {X base : Nat} {r sz : Int} {v v' : Value} {E E' : List Ed} (h : MSt w X base r sz v E) (hX : X < w.heap.size) (hb : Below w.heap.size w w') (hbase : base ≤ w.heap.size) (hr : RowS 36 3 w' w.heap.size w'.heap.size v' E'.length (flatE E')) :
 MSt (w'.setCell ⟨X, 2, none⟩ v') X base r sz v' E' := by
 obtain ⟨h1, lo, hi, h2, h3, h4, h5⟩ := h
 refine ⟨?_, w.heap.size, w'.heap.size, hr.keep (fun k q1 q2 => Below.heap_setCell _ _ _ _ (show k ≠ X by omega)), hbase, by simp [World.setCell], .inr hX⟩
 have hx : w'.heap[X]? = some (.cells #[.int .i64 r, .int .i64 sz, v] 26 (0, 0)) := by rw [hb.block X hX]; exact h1
 have := heap_setCell_same w' X 2 _ _ v' hx
 simpa using this
theorem MSt.form {w : World} {X base : Nat} {r sz : Int} {v : Value} {E : List Ed} (h : MSt w X base r sz v E) : ∃ a c, v = .slice a E.length c := by
 obtain ⟨_, lo, hi, ⟨_, _, ⟨h1, h2⟩ | ⟨g, off, cap, cur, h1, _⟩⟩, _⟩ := h
 · exact ⟨none, 0, by rw [h1, h2]⟩
 · exact ⟨_, _, h1⟩
theorem MSt.drew {w : World} {X base : Nat} {r sz : Int} {v : Value} {E : List Ed} (h : MSt w X base r sz v E) : MSt w.drew X base r sz v E := h
theorem MSt.read {w : World} {X base : Nat} {r sz : Int} {v : Value} {E : List Ed} (h : MSt w X base r sz v E) : ReadE w.heap.size w v E := by
 obtain ⟨h1, lo, hi, h2, h3, h4, h5⟩ := h
 exact h2.read.mono h4
theorem size_set3K {b : Nat} {w : World} {x0 x1 x2 : Value} : (((w.setCell ⟨b, 0, none⟩ x0).setCell ⟨b, 1, none⟩ x1).setCell ⟨b, 2, none⟩ x2).heap.size = w.heap.size := by simp [World.setCell]
theorem mst_fin {w w9 : World} {X R base cap : Nat} {r s' : Int} {E : List Ed} {b : Bool} {a : Option Addr} (hR : w.heap.size ≤ R) (hRX : R < base) (hbw : Below w.heap.size w w9) (h : MSt w9 X base r s' (.slice a E.length cap) E) :
 LwGraphBool w r s' E b (.returned (.tuple #[.agg #[.int .i64 r, .int .i64 s', .slice a E.length cap], .bool b])) (((w9.setCell ⟨R, 0, none⟩ (.int .i64 r)).setCell ⟨R, 1, none⟩ (.int .i64 s')).setCell ⟨R, 2, none⟩ (.slice a E.length cap)) := by
 obtain ⟨h1, lo, hi, h2, h3, h4, h5⟩ := h
 refine ⟨a, cap, rfl, ?_, below_set3 hbw hR⟩
 have hsz : (((w9.setCell ⟨R, 0, none⟩ (.int .i64 r)).setCell ⟨R, 1, none⟩ (.int .i64 s')).setCell ⟨R, 2, none⟩ (.slice a E.length cap)).heap.size = w9.heap.size := size_set3K
 have h9 : RowS 36 3 (((w9.setCell ⟨R, 0, none⟩ (.int .i64 r)).setCell ⟨R, 1, none⟩ (.int .i64 s')).setCell ⟨R, 2, none⟩ (.slice a E.length cap)) lo hi (.slice a E.length cap) E.length (flatE E) := h2.keep (fun k q1 q2 => by
  have hk : k ≠ R := by omega
  rw [Below.heap_setCell _ _ _ _ hk, Below.heap_setCell _ _ _ _ hk, Below.heap_setCell _ _ _ _ hk])
 exact h9.wide (by omega) (by rw [hsz]; exact h4)
theorem MSt.below {w w' : World} {X base : Nat} {r sz : Int} {v : Value} {E : List Ed} (h : MSt w X base r sz v E) (hX : X < w.heap.size) (hb : Below w.heap.size w w') : MSt w' X base r sz v E := by
 obtain ⟨h1, lo, hi, h2, h3, h4, h5⟩ := h
 exact ⟨by rw [hb.block X hX]; exact h1, lo, hi, h2.below hb h4, h3, Nat.le_trans h4 hb.size, h5⟩
end Go.Proofs.YtgnomlcjikfdhaaGreat
