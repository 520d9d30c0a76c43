import Derived.Deep.LoopGhost
import Derived.Test.YtgnomlcjikfdhaaGreatJ3Tr
import Derived.Test.YtgnomlcjikfdhaaGreatJ7Tr
import Derived.Test.YtgnomlcjikfdhaaGreatJ2Tr
import Derived.Test.YtgnomlcjikfdhaaGreatJ4Tr
namespace Go.Proofs.YtgnomlcjikfdhaaGreat
open Go.RowKit
set_option linter.unusedVariables false
set_option linter.unusedSimpArgs false
set_option maxHeartbeats 1600000 in
theorem sameEdges_law (w : World) (v1 v2 : Value) (E : List Ed) (h1 : ReadE w.heap.size w v1 E) (h2 : ReadE w.heap.size w v2 E) (hl : E.length ≤ 100000000) :
 Calls Tryz.prog 9 #[v1, v2] w (LwBool w true) := by
 obtain ⟨a1, cap1, rfl, hnc1⟩ := h1.form
 obtain ⟨a2, cap2, rfl, hnc2⟩ := h2.form
 obtain ⟨n, hn⟩ := exq E.length
 rw [← hn] at hl h1 h2 hnc1 hnc2 ⊢
 have hcl : ((n : Int) != (n : Int)) = false := by simp
 replace hn := hidI hn
 replace h1 := hidI h1
 replace h2 := hidI h2
 go_enter Tryz.func9, Tryz.ntmps9
 go_wp2
 go_loopg [5] n (fun g i wr => ∃ k d : Nat, k + g = n ∧ i = .int .i64 k ∧ Hid (wr = w.drewN d))
 case atStart => exact ⟨0, 0, by omega, rfl, hidI rfl⟩
 case round =>
  obtain ⟨k, d, hk, rfl, hwr⟩ := hrel
  have hwr' := hwr.out
  subst hwr'
  by_cases hlt : k < n
  · have hki : (k : Int) < (n : Int) := by omega
    obtain ⟨b1, o1, rfl, _, x0, x1, x2⟩ := ReadE.at3 h1.out k (by have := hn.out; omega)
    obtain ⟨b2, o2, rfl, _, y0, y1, y2⟩ := ReadE.at3 h2.out k (by have := hn.out; omega)
    obtain ⟨f, l, t, hE⟩ : ∃ f l t, E.getD k e0 = (f, l, t) := ⟨_, _, _, rfl⟩
    rw [hE] at x0 x1 x2 y0 y1 y2
    simp only at x0 x1 x2 y0 y1 y2
    replace hE := hidI hE
    replace hk := hidI hk
    go_wp2
    go_region
    go_wp2
    go_roundg (n - (k + 1))
    case rel => exact ⟨k + 1, d + 1, by have := hk.out; omega, by go_num, hidI rfl⟩
    case measure => have := hk.out; omega
  · obtain rfl : k = n := by omega
    have hki : ¬ (k : Int) < (k : Int) := by omega
    replace hk := hidI hk
    go_wp2
    go_ret
    exact ⟨rfl, below_dn (Below.refl _ _) d⟩
end Go.Proofs.YtgnomlcjikfdhaaGreat
namespace Go.Proofs.YtgnomlcjikfdhaaGreat
open Go.RowKit
set_option linter.unusedVariables false
set_option linter.unusedSimpArgs false
structure BxG (W : World) (Y : Nat) (r s : Int) (v : Value) (es : List Ed) : Prop where
 X : W.heap[Y]? = some (.cells #[.int .i64 r, .int .i64 s, v] 26 (0, 0))
 rd : ReadE W.heap.size W v es
variable {W W' : World} {Y : Nat} {r s : Int} {v : Value} {es : List Ed} {P : World → Prop}
theorem BxG.lt (h : BxG W Y r s v es) : Y < W.heap.size := (Array.getElem?_eq_some_iff.1 h.X).1
theorem BxG.adv (h : BxG W Y r s v es) (hb : Below W.heap.size W W') : BxG W' Y r s v es := ⟨(hb.block _ h.lt).trans h.X, (h.rd.below hb).mono hb.size⟩
theorem BxG.c (h : BxG W Y r s v es) : W.cell? ⟨Y, 0, none⟩ = some (.int .i64 r) ∧ W.cell? ⟨Y, 1, none⟩ = some (.int .i64 s) ∧ W.cell? ⟨Y, 2, none⟩ = some v := by
 obtain ⟨c0, c1, c2⟩ := cell3 h.X
 simp at c0 c1 c2
 exact ⟨c0, c1, c2⟩
def St (P : World → Prop) (W : World) : Prop := P W ∧ ∀ V V' : World, P V → Below V.heap.size V V' → P V'
theorem St.adv (h : St P W) (hb : Below W.heap.size W W') : St P W' := ⟨h.2 _ _ h.1 hb, h.2⟩
theorem St.box (h : St P W) (hq : BxG W Y r s v es) : St (fun W => BxG W Y r s v es ∧ P W) W :=
 ⟨⟨hq, h.1⟩, fun _ _ a hb => ⟨a.1.adv hb, h.2 _ _ a.2 hb⟩⟩
theorem St.int {zs : List Int} (h : St P W) (hq : ReadI W.heap.size W v zs) : St (fun W => ReadI W.heap.size W v zs ∧ P W) W :=
 ⟨⟨hq, h.1⟩, fun _ _ a hb => ⟨(a.1.below hb).mono hb.size, h.2 _ _ a.2 hb⟩⟩
theorem St.beg {w : World} {a : Option Addr} {len : Nat} (h : CodeIn w.heap.size w a len) : St (fun W => CodeIn W.heap.size W a len ∧ Below w.heap.size w W) w :=
 ⟨⟨h, Below.refl _ _⟩, fun _ _ x hb => ⟨⟨(x.1.below hb).1, (x.1.below hb).2.imp id (fun ⟨b, off, ha, hb', hc⟩ => ⟨b, off, ha, Nat.lt_of_lt_of_le hb' hb.size, hc⟩)⟩, x.2.trans (hb.mono x.2.size)⟩⟩
theorem box_new {n : World} {a : Option Addr} {k c : Nat} {r s : Int} {es : List Ed} (hrow : ReadS 3 n.heap.size n (.slice a k c) k (flatE es)) (hk : k = es.length) :
 ∃ (x y : World) (Y : Nat), Hid (n.alloc (.cells #[.int .i64 0, .int .i64 0, .slice none 0 0] 26) = x) ∧ Hid (n.heap.size = Y)
  ∧ Hid (((x.setCell ⟨Y, 0, none⟩ (.int .i64 r)).setCell ⟨Y, 1, none⟩ (.int .i64 s)).setCell ⟨Y, 2, none⟩ (.slice a k c) = y)
  ∧ x.cell? ⟨Y, 0, none⟩ = some (.int .i64 0) ∧ x.cell? ⟨Y, 1, none⟩ = some (.int .i64 0) ∧ x.cell? ⟨Y, 2, none⟩ = some (.slice none 0 0)
  ∧ (∀ j, x.frozen? ⟨Y, j, none⟩ = false) ∧ BxG y Y r s (.slice a k c) es ∧ Below n.heap.size n y := by
 obtain ⟨x, hx⟩ := exq (n.alloc (.cells #[.int .i64 0, .int .i64 0, .slice none 0 0] 26))
 have hX0 : x.heap[n.heap.size]? = some (.cells #[.int .i64 0, .int .i64 0, .slice none 0 0] 26 (0, 0)) := by rw [hx]; exact heap_alloc_new _ _
 have hbA : Below n.heap.size n x := by rw [hx]; exact (Below.refl _ _).alloc (Nat.le_refl _) _
 have hX := set3 hX0 (.int .i64 r) (.int .i64 s) (.slice a k c)
 have hb := below_set3 (x0 := .int .i64 r) (x1 := .int .i64 s) (x2 := .slice a k c) hbA (Nat.le_refl n.heap.size)
 obtain ⟨t0, t1, t2⟩ := cell3 hX0
 simp at t0 t1 t2
 refine ⟨x, _, n.heap.size, hidI hx.symm, hidI rfl, hidI rfl, t0, t1, t2, fun j => frozen_of_row x _ j _ _ hX0, ⟨hX, ?_⟩, hb⟩
 have h := (hrow.below hb).mono hb.size
 unfold ReadE
 rw [← hk]
 exact h
end Go.Proofs.YtgnomlcjikfdhaaGreat
namespace Go.Proofs.YtgnomlcjikfdhaaGreat
open Go.RowKit
set_option linter.unusedVariables false
set_option linter.unusedSimpArgs false
structure BxE (W : World) (Y : Nat) (k d q : Int) : Prop where
 X : W.heap[Y]? = some (.cells #[.int .i64 k, .int .i64 d, .int .i64 q] 36 (0, 0))
section
variable {W W' : World} {Y : Nat} {k d q r s : Int} {v : Value} {P : World → Prop}
theorem BxE.lt (h : BxE W Y k d q) : Y < W.heap.size := (Array.getElem?_eq_some_iff.1 h.X).1
theorem BxE.adv (h : BxE W Y k d q) (hb : Below W.heap.size W W') : BxE W' Y k d q := ⟨(hb.block _ h.lt).trans h.X⟩
theorem BxE.c (h : BxE W Y k d q) : W.cell? ⟨Y, 0, none⟩ = some (.int .i64 k) ∧ W.cell? ⟨Y, 1, none⟩ = some (.int .i64 d) ∧ W.cell? ⟨Y, 2, none⟩ = some (.int .i64 q) := by
 obtain ⟨c0, c1, c2⟩ := cell3 h.X
 simp at c0 c1 c2
 exact ⟨c0, c1, c2⟩
theorem St.ebox (h : St P W) (hq : BxE W Y k d q) : St (fun W => BxE W Y k d q ∧ P W) W :=
 ⟨⟨hq, h.1⟩, fun _ _ a hb => ⟨a.1.adv hb, h.2 _ _ a.2 hb⟩⟩
theorem St.edg {l : List Ed} (h : St P W) (hq : ReadE W.heap.size W v l) : St (fun W => ReadE W.heap.size W v l ∧ P W) W :=
 ⟨⟨hq, h.1⟩, fun _ _ a hb => ⟨(a.1.below hb).mono hb.size, h.2 _ _ a.2 hb⟩⟩
end
theorem box_new2E {n : World} {a : Option Addr} {m c : Nat} {r s : Int} {es : List Ed} (hrow : ReadS 3 n.heap.size n (.slice a m c) m (flatE es)) (hk : m = es.length) (k d q : Int) :
 ∃ (x x2 y1 y : World) (Y Z : Nat), Hid (n.alloc (.cells #[.int .i64 0, .int .i64 0, .slice none 0 0] 26) = x) ∧ Hid (x.alloc (.cells #[.int .i64 0, .int .i64 0, .int .i64 0] 36) = x2) ∧ Hid (n.heap.size = Y) ∧ Hid (x.heap.size = Z) ∧ Hid (n.heap.size + 1 = Z)
  ∧ Hid (((x2.setCell ⟨Y, 0, none⟩ (.int .i64 r)).setCell ⟨Y, 1, none⟩ (.int .i64 s)).setCell ⟨Y, 2, none⟩ (.slice a m c) = y1)
  ∧ Hid (((y1.setCell ⟨Z, 0, none⟩ (.int .i64 k)).setCell ⟨Z, 1, none⟩ (.int .i64 d)).setCell ⟨Z, 2, none⟩ (.int .i64 q) = y)
  ∧ x2.cell? ⟨Y, 0, none⟩ = some (.int .i64 0) ∧ x2.cell? ⟨Y, 1, none⟩ = some (.int .i64 0) ∧ x2.cell? ⟨Y, 2, none⟩ = some (.slice none 0 0)
  ∧ (∀ j, x2.frozen? ⟨Y, j, none⟩ = false)
  ∧ y1.cell? ⟨Z, 0, none⟩ = some (.int .i64 0) ∧ y1.cell? ⟨Z, 1, none⟩ = some (.int .i64 0) ∧ y1.cell? ⟨Z, 2, none⟩ = some (.int .i64 0) ∧ (∀ j, y1.frozen? ⟨Z, j, none⟩ = false)
  ∧ BxG y Y r s (.slice a m c) es ∧ BxE y Z k d q ∧ Below n.heap.size n y := by
 obtain ⟨x, hx⟩ := exq (n.alloc (.cells #[.int .i64 0, .int .i64 0, .slice none 0 0] 26))
 have hsx : x.heap.size = n.heap.size + 1 := by rw [hx]; simp
 obtain ⟨x2, hx2⟩ := exq (x.alloc (.cells #[.int .i64 0, .int .i64 0, .int .i64 0] 36))
 have hX0 : x2.heap[n.heap.size]? = some (.cells #[.int .i64 0, .int .i64 0, .slice none 0 0] 26 (0, 0)) := by rw [hx2, hx]; exact heap_box _ _ _
 have hZ0 : x2.heap[x.heap.size]? = some (.cells #[.int .i64 0, .int .i64 0, .int .i64 0] 36 (0, 0)) := by rw [hx2]; exact heap_alloc_new _ _
 have hne : x.heap.size ≠ n.heap.size := by omega
 have hne2 : n.heap.size ≠ x.heap.size := by omega
 have hbA : Below n.heap.size n x2 := by rw [hx2, hx]; exact ((Below.refl _ _).alloc (Nat.le_refl _) _).alloc (by simp) _
 obtain ⟨y1, hy1⟩ := exq (((x2.setCell ⟨n.heap.size, 0, none⟩ (.int .i64 r)).setCell ⟨n.heap.size, 1, none⟩ (.int .i64 s)).setCell ⟨n.heap.size, 2, none⟩ (.slice a m c))
 have hX1 : y1.heap[n.heap.size]? = some (.cells #[.int .i64 r, .int .i64 s, .slice a m c] 26 (0, 0)) := by rw [hy1]; exact set3 hX0 _ _ _
 have hZ1 : y1.heap[x.heap.size]? = some (.cells #[.int .i64 0, .int .i64 0, .int .i64 0] 36 (0, 0)) := by rw [hy1, heap_set3 hne]; exact hZ0
 have hb1 : Below n.heap.size n y1 := by rw [hy1]; exact below_set3 hbA (Nat.le_refl _)
 have hb : Below n.heap.size n (((y1.setCell ⟨x.heap.size, 0, none⟩ (.int .i64 k)).setCell ⟨x.heap.size, 1, none⟩ (.int .i64 d)).setCell ⟨x.heap.size, 2, none⟩ (.int .i64 q)) := below_set3 hb1 (by omega)
 have hXf : (((y1.setCell ⟨x.heap.size, 0, none⟩ (.int .i64 k)).setCell ⟨x.heap.size, 1, none⟩ (.int .i64 d)).setCell ⟨x.heap.size, 2, none⟩ (.int .i64 q)).heap[n.heap.size]? = some (.cells #[.int .i64 r, .int .i64 s, .slice a m c] 26 (0, 0)) := by
  rw [heap_set3 hne2]; exact hX1
 obtain ⟨t0, t1, t2⟩ := cell3 hX0
 obtain ⟨u0, u1, u2⟩ := cell3 hZ1
 simp at t0 t1 t2 u0 u1 u2
 refine ⟨x, x2, y1, _, n.heap.size, x.heap.size, hidI hx.symm, hidI hx2.symm, hidI rfl, hidI rfl, hidI hsx.symm, hidI hy1.symm, hidI rfl, t0, t1, t2, fun j => frozen_of_row x2 _ j _ _ hX0, u0, u1, u2, fun j => frozen_of_row y1 _ j _ _ hZ1, ⟨hXf, ?_⟩, ⟨set3 hZ1 _ _ _⟩, hb⟩
 have h := (hrow.below hb).mono hb.size
 unfold ReadE
 rw [← hk]
 exact h
end Go.Proofs.YtgnomlcjikfdhaaGreat
