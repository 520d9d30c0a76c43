import Derived.Test.YtfpklgmahbhecaaGreatQF
import Derived.Test.YtfpklgmahbhecaaGreatRB
import Derived.Test.YtfpklgmahbhecaaGreatRA
namespace Go.Proofs.YtfpklgmahbhecaaGreat
open Go.RowKit
set_option linter.unusedVariables false
set_option linter.unusedSimpArgs false
structure BxG (W : World) (Y : Nat) (r s : Int) (v : Value) (es : List Ed) : Prop where
 X : W.heap[Y]? = some (.cells #[.int .i64 r, .int .i64 s, v] 26 (0, 0))
 rd : ReadE W.heap.size W v es
variable {W W' : World} {Y : Nat} {r s : Int} {v : Value} {es : List Ed} {P : World → Prop}
theorem BxG.lt (h : BxG W Y r s v es) : Y < W.heap.size := (Array.getElem?_eq_some_iff.1 h.X).1
theorem BxG.adv (h : BxG W Y r s v es) (hb : Below W.heap.size W W') : BxG W' Y r s v es := ⟨(hb.block _ h.lt).trans h.X, (h.rd.below hb).mono hb.size⟩
theorem BxG.c (h : BxG W Y r s v es) : W.cell? ⟨Y, 0, none⟩ = some (.int .i64 r) ∧ W.cell? ⟨Y, 1, none⟩ = some (.int .i64 s) ∧ W.cell? ⟨Y, 2, none⟩ = some v := by
 obtain ⟨c0, c1, c2⟩ := cell3 h.X
 simp at c0 c1 c2
 exact ⟨c0, c1, c2⟩
def St (P : World → Prop) (W : World) : Prop := P W ∧ ∀ V V' : World, P V → Below V.heap.size V V' → P V'
theorem St.adv (h : St P W) (hb : Below W.heap.size W W') : St P W' := ⟨h.2 _ _ h.1 hb, h.2⟩
theorem St.box (h : St P W) (hq : BxG W Y r s v es) : St (fun W => BxG W Y r s v es ∧ P W) W :=
 ⟨⟨hq, h.1⟩, fun _ _ a hb => ⟨a.1.adv hb, h.2 _ _ a.2 hb⟩⟩
theorem St.int {zs : List Int} (h : St P W) (hq : ReadI W.heap.size W v zs) : St (fun W => ReadI W.heap.size W v zs ∧ P W) W :=
 ⟨⟨hq, h.1⟩, fun _ _ a hb => ⟨(a.1.below hb).mono hb.size, h.2 _ _ a.2 hb⟩⟩
theorem St.beg {w : World} {a : Option Addr} {len : Nat} (h : CodeIn w.heap.size w a len) : St (fun W => CodeIn W.heap.size W a len ∧ Below w.heap.size w W) w :=
 ⟨⟨h, Below.refl _ _⟩, fun _ _ x hb => ⟨⟨(x.1.below hb).1, (x.1.below hb).2.imp id (fun ⟨b, off, ha, hb', hc⟩ => ⟨b, off, ha, Nat.lt_of_lt_of_le hb' hb.size, hc⟩)⟩, x.2.trans (hb.mono x.2.size)⟩⟩
theorem box_new {n : World} {a : Option Addr} {k c : Nat} {r s : Int} {es : List Ed} (hrow : ReadS 3 n.heap.size n (.slice a k c) k (flatE es)) (hk : k = es.length) :
 ∃ (x y : World) (Y : Nat), Hid (n.alloc (.cells #[.int .i64 0, .int .i64 0, .slice none 0 0] 26) = x) ∧ Hid (n.heap.size = Y)
  ∧ Hid (((x.setCell ⟨Y, 0, none⟩ (.int .i64 r)).setCell ⟨Y, 1, none⟩ (.int .i64 s)).setCell ⟨Y, 2, none⟩ (.slice a k c) = y)
  ∧ x.cell? ⟨Y, 0, none⟩ = some (.int .i64 0) ∧ x.cell? ⟨Y, 1, none⟩ = some (.int .i64 0) ∧ x.cell? ⟨Y, 2, none⟩ = some (.slice none 0 0)
  ∧ (∀ j, x.frozen? ⟨Y, j, none⟩ = false) ∧ BxG y Y r s (.slice a k c) es ∧ Below n.heap.size n y := by
 obtain ⟨x, hx⟩ := exq (n.alloc (.cells #[.int .i64 0, .int .i64 0, .slice none 0 0] 26))
 have hX0 : x.heap[n.heap.size]? = some (.cells #[.int .i64 0, .int .i64 0, .slice none 0 0] 26 (0, 0)) := by rw [hx]; exact heap_alloc_new _ _
 have hbA : Below n.heap.size n x := by rw [hx]; exact (Below.refl _ _).alloc (Nat.le_refl _) _
 have hX := set3 hX0 (.int .i64 r) (.int .i64 s) (.slice a k c)
 have hb := below_set3 (x0 := .int .i64 r) (x1 := .int .i64 s) (x2 := .slice a k c) hbA (Nat.le_refl n.heap.size)
 obtain ⟨t0, t1, t2⟩ := cell3 hX0
 simp at t0 t1 t2
 refine ⟨x, _, n.heap.size, hidI hx.symm, hidI rfl, hidI rfl, t0, t1, t2, fun j => frozen_of_row x _ j _ _ hX0, ⟨hX, ?_⟩, hb⟩
 have h := (hrow.below hb).mono hb.size
 unfold ReadE
 rw [← hk]
 exact h
end Go.Proofs.YtfpklgmahbhecaaGreat
