/- Appending to slices of ints of the call's own. -/
import Derived.Test.YtdeofaimgldklaaDoorLI
import Derived.WalkSmall
import Derived.Laws.AppendOwnNone
namespace Go.Proofs.YtdeofaimgldklaaDoor
open Go.RowKit
set_option linter.unusedVariables false

/-- v is a slice of the call's own (in a block from base on) that holds the ints zs. -/
def OwnsI (w : World) (base : Nat) (v : Value) (zs : List Int) : Prop := w.ownsRow base 3 1 v zs.length (zs.map iv)
theorem OwnsI.lit (w : World) : OwnsI (w.alloc (.cells #[] 3)) w.heap.size (.slice (some ⟨w.heap.size, 0, none⟩) 0 0) [] := World.ownsRow_lit w #[] 0 (Nat.le_refl _) (Nat.zero_le _) rfl
theorem OwnsI.row {w : World} {base : Nat} {v : Value} {zs : List Int} (h : OwnsI w base v zs) (hl : zs.length ≤ 140737488355328) : RowI w base w.heap.size v zs := RowI.of_owns h hl
theorem OwnsI.drewN {w : World} {base : Nat} {v : Value} {zs : List Int} (h : OwnsI w base v zs) (n : Nat) : OwnsI (w.drewN n) base v zs := h
theorem OwnsI.mono {w : World} {base base' : Nat} {v : Value} {zs : List Int} (h : OwnsI w base v zs) (hb : base' ≤ base) : OwnsI w base' v zs := by
  obtain ⟨h1, h2⟩ := h
  refine ⟨h1, h2.imp id ?_⟩
  rintro ⟨g, cap, cur, a, b, c⟩
  exact ⟨g, cap, cur, a, by omega, c⟩
end Go.Proofs.YtdeofaimgldklaaDoor
