import Derived.Test.YtgnomlcjikfdhaaGreatJ4Me
import Derived.Test.YtgnomlcjikfdhaaGreatJ5Me
namespace Go.Proofs.YtgnomlcjikfdhaaGreat
open Go.RowKit
set_option linter.unusedVariables false
set_option linter.unusedSimpArgs false
def cO (w : World) (X base : Nat) (r sz : Int) (v : Value) (E : List Ed) : Prop :=
 w.heap[X]? = some (.cells #[.int .i64 r, .int .i64 sz, v] 26 (0, 0)) ∧ ∃ lo hi, aF 36 3 w lo hi v E.length (aC E) ∧ base ≤ lo ∧ hi ≤ w.heap.size ∧ (hi ≤ X ∨ X < lo)
theorem cO.sized {w : World} {X base : Nat} {r sz : Int} {v : Value} {E : List Ed} (h : cO w X base r sz v E) (s' : Int) : cO (w.setCell ⟨X, 1, none⟩ (.int .i64 s')) X base r s' v E := by
 obtain ⟨h1, lo, hi, h2, h3, h4, h5⟩ := h; refine ⟨?_, lo, hi, h2.keep (fun k q1 q2 => Below.heap_setCell _ _ _ _ (show k ≠ X by omega)), h3, by simpa [World.setCell] using h4, h5⟩
 have := heap_setCell_same w X 1 _ _ (.int .i64 s') h1; simpa using this
theorem cO.put {w w' : World} {X base : Nat} {r sz : Int} {v v' : Value} {E E' : List Ed} (h : cO w X base r sz v E) (hX : X < w.heap.size) (hb : Below w.heap.size w w') (hbase : base ≤ w.heap.size) (hr : aF 36 3 w' w.heap.size w'.heap.size v' E'.length (aC E')) :
 cO (w'.setCell ⟨X, 2, none⟩ v') X base r sz v' E' := by
 obtain ⟨h1, lo, hi, h2, h3, h4, h5⟩ := h; refine ⟨?_, w.heap.size, w'.heap.size, hr.keep (fun k q1 q2 => Below.heap_setCell _ _ _ _ (show k ≠ X by omega)), hbase, by simp [World.setCell], .inr hX⟩
 have hx : w'.heap[X]? = some (.cells #[.int .i64 r, .int .i64 sz, v] 26 (0, 0)) := by rw [hb.block X hX]; exact h1
 have := heap_setCell_same w' X 2 _ _ v' hx; simpa using this
theorem cO.form {w : World} {X base : Nat} {r sz : Int} {v : Value} {E : List Ed} (h : cO w X base r sz v E) : ∃ a c, v = .slice a E.length c := by
 obtain ⟨_, lo, hi, ⟨_, _, ⟨h1, h2⟩ | ⟨g, off, cap, cur, h1, _⟩⟩, _⟩ := h
 · exact ⟨none, 0, by rw [h1, h2]⟩
 · exact ⟨_, _, h1⟩
theorem cO.drew {w : World} {X base : Nat} {r sz : Int} {v : Value} {E : List Ed} (h : cO w X base r sz v E) : cO w.drew X base r sz v E := h
theorem cO.read {w : World} {X base : Nat} {r sz : Int} {v : Value} {E : List Ed} (h : cO w X base r sz v E) : ay w.heap.size w v E := by
 obtain ⟨h1, lo, hi, h2, h3, h4, h5⟩ := h; exact h2.read.mono h4
theorem ja {b : Nat} {w : World} {x0 x1 x2 : Value} : (((w.setCell ⟨b, 0, none⟩ x0).setCell ⟨b, 1, none⟩ x1).setCell ⟨b, 2, none⟩ x2).heap.size = w.heap.size := by simp [World.setCell]
theorem iI {w w9 : World} {X R base cap : Nat} {r s' : Int} {E : List Ed} {b : Bool} {a : Option Addr} (hR : w.heap.size ≤ R) (hRX : R < base) (hbw : Below w.heap.size w w9) (h : cO w9 X base r s' (.slice a E.length cap) E) :
 aS w r s' E b (.returned (.tuple #[.agg #[.int .i64 r, .int .i64 s', .slice a E.length cap], .bool b])) (((w9.setCell ⟨R, 0, none⟩ (.int .i64 r)).setCell ⟨R, 1, none⟩ (.int .i64 s')).setCell ⟨R, 2, none⟩ (.slice a E.length cap)) := by
 obtain ⟨h1, lo, hi, h2, h3, h4, h5⟩ := h; refine ⟨a, cap, rfl, ?_, aN hbw hR⟩; have hsz : (((w9.setCell ⟨R, 0, none⟩ (.int .i64 r)).setCell ⟨R, 1, none⟩ (.int .i64 s')).setCell ⟨R, 2, none⟩ (.slice a E.length cap)).heap.size = w9.heap.size := ja; have h9 : aF 36 3 (((w9.setCell ⟨R, 0, none⟩ (.int .i64 r)).setCell ⟨R, 1, none⟩ (.int .i64 s')).setCell ⟨R, 2, none⟩ (.slice a E.length cap)) lo hi (.slice a E.length cap) E.length (aC E) := h2.keep (fun k q1 q2 => by
  have hk : k ≠ R := by omega
  rw [Below.heap_setCell _ _ _ _ hk, Below.heap_setCell _ _ _ _ hk, Below.heap_setCell _ _ _ _ hk])
 exact h9.wide (by omega) (by rw [hsz]; exact h4)
theorem cO.below {w w' : World} {X base : Nat} {r sz : Int} {v : Value} {E : List Ed} (h : cO w X base r sz v E) (hX : X < w.heap.size) (hb : Below w.heap.size w w') : cO w' X base r sz v E := by
 obtain ⟨h1, lo, hi, h2, h3, h4, h5⟩ := h; exact ⟨by rw [hb.block X hX]; exact h1, lo, hi, h2.below hb h4, h3, Nat.le_trans h4 hb.size, h5⟩
end Go.Proofs.YtgnomlcjikfdhaaGreat
