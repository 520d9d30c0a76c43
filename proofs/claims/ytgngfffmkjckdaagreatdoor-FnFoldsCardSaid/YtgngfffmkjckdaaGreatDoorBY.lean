/- What a long walk carries along: folds in boxes, rows of folds, strconv's table; texts and folds compared. -/
import Derived.Test.YtgngfffmkjckdaaGreatDoorBX
import Derived.Test.YtgngfffmkjckdaaGreatDoorHMS
import Derived.Test.YtgngfffmkjckdaaGreatDoorYR
import Derived.Test.YtgngfffmkjckdaaGreatDoorYF
import Derived.Test.YtgngfffmkjckdaaGreatDoorQC
namespace Go.Proofs.YtgngfffmkjckdaaGreatDoor
open Go.RowKit
set_option linter.unusedVariables false
set_option linter.unusedSimpArgs false

/-- A fold in a box. -/
structure BxF (W : World) (Y : Nat) (k d : Int) : Prop where
  X : W.heap[Y]? = some (.cells #[.int .i64 k, .int .i64 d] 37 (0, 0))
variable {W W' : World} {Y : Nat} {k d r s : Int} {v : Value} {P : World → Prop}
theorem BxF.lt (h : BxF W Y k d) : Y < W.heap.size := (Array.getElem?_eq_some_iff.1 h.X).1
theorem BxF.adv (h : BxF W Y k d) (hb : Below W.heap.size W W') : BxF W' Y k d := ⟨(hb.block _ h.lt).trans h.X⟩
theorem BxF.c (h : BxF W Y k d) : W.cell? ⟨Y, 0, none⟩ = some (.int .i64 k) ∧ W.cell? ⟨Y, 1, none⟩ = some (.int .i64 d) := by
  have c0 := cell_of_heap h.X 0
  have c1 := cell_of_heap h.X 1
  simp at c0 c1
  exact ⟨c0, c1⟩
theorem St.fbox (h : St P W) (hq : BxF W Y k d) : St (fun W => BxF W Y k d ∧ P W) W :=
  ⟨⟨hq, h.1⟩, fun _ _ a hb => ⟨a.1.adv hb, h.2 _ _ a.2 hb⟩⟩
theorem St.fol {l : List tupF} (h : St P W) (hq : ReadF W.heap.size W v l) : St (fun W => ReadF W.heap.size W v l ∧ P W) W :=
  ⟨⟨hq, h.1⟩, fun _ _ a hb => ⟨(a.1.below hb).mono hb.size, h.2 _ _ a.2 hb⟩⟩
/-- A fold that was handed back is put into a box. -/
theorem box_newF (n : World) (k d : Int) :
    ∃ (x y : World) (Y : Nat), Hid (n.alloc (.cells #[.int .i64 0, .int .i64 0] 37) = x) ∧ Hid (n.heap.size = Y)
      ∧ Hid ((x.setCell ⟨Y, 0, none⟩ (.int .i64 k)).setCell ⟨Y, 1, none⟩ (.int .i64 d) = y)
      ∧ x.cell? ⟨Y, 0, none⟩ = some (.int .i64 0) ∧ x.cell? ⟨Y, 1, none⟩ = some (.int .i64 0)
      ∧ (∀ j, x.frozen? ⟨Y, j, none⟩ = false) ∧ BxF y Y k d ∧ Below n.heap.size n y := by
  obtain ⟨x, hx⟩ : ∃ z, z = n.alloc (.cells #[.int .i64 0, .int .i64 0] 37) := ⟨_, rfl⟩
  have hX0 : x.heap[n.heap.size]? = some (.cells #[.int .i64 0, .int .i64 0] 37 (0, 0)) := by rw [hx]; exact heap_alloc_new _ _
  have hbA : Below n.heap.size n x := by rw [hx]; exact (Below.refl _ _).alloc (Nat.le_refl _) _
  have hX := set2F hX0 (.int .i64 k) (.int .i64 d)
  have hb := (hbA.setCell (p := ⟨n.heap.size, 0, none⟩) (Nat.le_refl _) (.int .i64 k)).setCell (p := ⟨n.heap.size, 1, none⟩) (Nat.le_refl _) (.int .i64 d)
  have t0 := cell_of_heap hX0 0
  have t1 := cell_of_heap hX0 1
  simp at t0 t1
  exact ⟨x, _, n.heap.size, hidI hx.symm, hidI rfl, hidI rfl, t0, t1, fun j => frozen_of_row x _ j _ _ hX0, ⟨hX⟩, hb⟩
/-- A graph and a fold that were handed back are put into boxes. -/
theorem box_new2 {n : World} {a : Option Addr} {m c : Nat} {r s : Int} {es : List Ed} (hrow : ReadS 3 n.heap.size n (.slice a m c) m (flatE es)) (hk : m = es.length) (k d : Int) :
    ∃ (x x2 y1 y : World) (Y Z : Nat), Hid (n.alloc (.cells #[.int .i64 0, .int .i64 0, .slice none 0 0] 26) = x) ∧ Hid (x.alloc (.cells #[.int .i64 0, .int .i64 0] 37) = x2) ∧ Hid (n.heap.size = Y) ∧ Hid (x.heap.size = Z) ∧ Hid (n.heap.size + 1 = Z)
      ∧ Hid (((x2.setCell ⟨Y, 0, none⟩ (.int .i64 r)).setCell ⟨Y, 1, none⟩ (.int .i64 s)).setCell ⟨Y, 2, none⟩ (.slice a m c) = y1)
      ∧ Hid ((y1.setCell ⟨Z, 0, none⟩ (.int .i64 k)).setCell ⟨Z, 1, none⟩ (.int .i64 d) = y)
      ∧ x2.cell? ⟨Y, 0, none⟩ = some (.int .i64 0) ∧ x2.cell? ⟨Y, 1, none⟩ = some (.int .i64 0) ∧ x2.cell? ⟨Y, 2, none⟩ = some (.slice none 0 0)
      ∧ (∀ j, x2.frozen? ⟨Y, j, none⟩ = false)
      ∧ y1.cell? ⟨Z, 0, none⟩ = some (.int .i64 0) ∧ y1.cell? ⟨Z, 1, none⟩ = some (.int .i64 0) ∧ (∀ j, y1.frozen? ⟨Z, j, none⟩ = false)
      ∧ BxG y Y r s (.slice a m c) es ∧ BxF y Z k d ∧ Below n.heap.size n y := by
  obtain ⟨x, hx⟩ : ∃ z, z = n.alloc (.cells #[.int .i64 0, .int .i64 0, .slice none 0 0] 26) := ⟨_, rfl⟩
  have hsx : x.heap.size = n.heap.size + 1 := by rw [hx]; simp
  obtain ⟨x2, hx2⟩ : ∃ z, z = x.alloc (.cells #[.int .i64 0, .int .i64 0] 37) := ⟨_, rfl⟩
  have hX0 : x2.heap[n.heap.size]? = some (.cells #[.int .i64 0, .int .i64 0, .slice none 0 0] 26 (0, 0)) := by rw [hx2, hx]; exact heap_box _ _ _
  have hZ0 : x2.heap[x.heap.size]? = some (.cells #[.int .i64 0, .int .i64 0] 37 (0, 0)) := by rw [hx2]; exact heap_alloc_new _ _
  have hne : x.heap.size ≠ n.heap.size := by omega
  have hne2 : n.heap.size ≠ x.heap.size := by omega
  have hbA : Below n.heap.size n x2 := by rw [hx2, hx]; exact ((Below.refl _ _).alloc (Nat.le_refl _) _).alloc (by simp) _
  obtain ⟨y1, hy1⟩ : ∃ z, z = ((x2.setCell ⟨n.heap.size, 0, none⟩ (.int .i64 r)).setCell ⟨n.heap.size, 1, none⟩ (.int .i64 s)).setCell ⟨n.heap.size, 2, none⟩ (.slice a m c) := ⟨_, rfl⟩
  have hX1 : y1.heap[n.heap.size]? = some (.cells #[.int .i64 r, .int .i64 s, .slice a m c] 26 (0, 0)) := by rw [hy1]; exact set3 hX0 _ _ _
  have hZ1 : y1.heap[x.heap.size]? = some (.cells #[.int .i64 0, .int .i64 0] 37 (0, 0)) := by rw [hy1, heap_set3 hne]; exact hZ0
  have hb1 : Below n.heap.size n y1 := by rw [hy1]; exact below_set3 hbA (Nat.le_refl _)
  have hb : Below n.heap.size n ((y1.setCell ⟨x.heap.size, 0, none⟩ (.int .i64 k)).setCell ⟨x.heap.size, 1, none⟩ (.int .i64 d)) := (hb1.setCell (p := ⟨x.heap.size, 0, none⟩) (show n.heap.size ≤ x.heap.size by omega) _).setCell (p := ⟨x.heap.size, 1, none⟩) (show n.heap.size ≤ x.heap.size by omega) _
  have hXf : ((y1.setCell ⟨x.heap.size, 0, none⟩ (.int .i64 k)).setCell ⟨x.heap.size, 1, none⟩ (.int .i64 d)).heap[n.heap.size]? = some (.cells #[.int .i64 r, .int .i64 s, .slice a m c] 26 (0, 0)) := by
    rw [Below.heap_setCell _ _ _ _ hne2, Below.heap_setCell _ _ _ _ hne2]; exact hX1
  have t0 := cell_of_heap hX0 0
  have t1 := cell_of_heap hX0 1
  have t2 := cell_of_heap hX0 2
  have u0 := cell_of_heap hZ1 0
  have u1 := cell_of_heap hZ1 1
  simp at t0 t1 t2 u0 u1
  refine ⟨x, x2, y1, _, n.heap.size, x.heap.size, hidI hx.symm, hidI hx2.symm, hidI rfl, hidI rfl, hidI hsx.symm, hidI hy1.symm, hidI rfl, t0, t1, t2, fun j => frozen_of_row x2 _ j _ _ hX0, u0, u1, fun j => frozen_of_row y1 _ j _ _ hZ1, ⟨hXf, ?_⟩, ⟨set2F hZ1 _ _⟩, hb⟩
  have h := (hrow.below hb).mono hb.size
  unfold ReadE
  rw [← hk]
  exact h
/-- A fold is itself. -/
theorem fold_eql (w : World) (k d : Int) : (Go.binOp .eql 37 (.agg #[.int .i64 k, .int .i64 d]) (.agg #[.int .i64 k, .int .i64 d])).run Tryz.prog w = .ok (.bool true) w := by
  have h := eqFd.1 (k, d) (k, d) w
  simpa [encFd] using h
theorem eqG_me (r s : Int) (es : List Ed) : eqG r s es r s es = true := by
  unfold eqG
  simp
end Go.Proofs.YtgngfffmkjckdaaGreatDoor
