/- The cursor of the drawn inputs (spec/l01_draw.go): l1New, l1Byte, l1Below. -/
import Derived.Test.YtcjkgknmpgehbaaS
import Derived.Deep.QuietTactic
import Derived.BigQuiet
namespace Go.Proofs.Ytcjkgknmpgehbaa
open Go.RowKit
set_option linter.unusedVariables false

/-- The drawn code can be read: its bytes lie below block B. -/
def CodeIn (B : Nat) (w : World) (a : Option Addr) (len : Nat) : Prop :=
  len ≤ 1048576 ∧ (len = 0 ∨ ∃ b off, a = some ⟨b, off, none⟩ ∧ b < B ∧ ∀ i, i < len → ∃ c : UInt8, w.cell? ⟨b, off + i, none⟩ = some (.int .u8 (c.toNat : Int)))
theorem CodeIn.below {B : Nat} {w w' : World} {a : Option Addr} {len : Nat} (h : CodeIn B w a len) (hb : Below B w w') : CodeIn B w' a len := by
  refine ⟨h.1, h.2.imp id ?_⟩
  rintro ⟨b, off, ha, hB, hc⟩
  refine ⟨b, off, ha, hB, fun i hi => ?_⟩
  obtain ⟨c, hcell⟩ := hc i hi
  exact ⟨c, by rw [hb.cell (p := ⟨b, off + i, none⟩) hB]; exact hcell⟩
/-- Block g is a cursor over the code. -/
def CurAt (B : Nat) (w : World) (g : Nat) (a : Option Addr) (len cap : Nat) : Prop :=
  B ≤ g ∧ ∃ (i : Nat) (h : Int), i ≤ len ∧ w.heap[g]? = some (.cells #[.slice a len cap, .int .i64 i, .int .i64 h] 58 (0, 0))
theorem grown_trans {w w1 w2 : World} {row : Option Nat} (h : w.grownBy w1 row) (k : w1.grownBy w2 row) : w.grownBy w2 row :=
  ⟨k.os.trans h.os, k.tape.trans h.tape, k.output.trans h.output, Nat.le_trans h.size k.size, fun i hi hne => (k.block i (Nat.lt_of_lt_of_le hi h.size) hne).trans (h.block i hi hne)⟩
theorem CurAt.below {B : Nat} {w w' : World} {g : Nat} {a : Option Addr} {len cap : Nat} (h : CurAt B w g a len cap) (hg : w.grownBy w' (some g)) : Below B w w' := by
  obtain ⟨hB, i, hh, hi, hheap⟩ := h
  have hlt : g < w.heap.size := (Array.getElem?_eq_some_iff.1 hheap).1
  exact ⟨hg.os, hg.tape, hg.output, hg.size, fun k hk => hg.block k (by omega) (fun e => by cases e; omega)⟩
theorem and255 (y : Int) : ∃ n : Nat, n < 256 ∧ bits .and .i64 y 255 = (n : Int) := by
  refine ⟨(BitVec.ofInt 64 y &&& 255#64).toNat, ?_, ?_⟩
  · rw [BitVec.toNat_and]
    exact Nat.lt_of_le_of_lt Nat.and_le_right (by decide)
  · show IntKind.i64.wrap _ = _
    have hlt : (BitVec.ofInt 64 y &&& 255#64).toNat < 256 := by
      rw [BitVec.toNat_and]
      exact Nat.lt_of_le_of_lt Nat.and_le_right (by decide)
    exact IntWalk.i64_in _ (by have : ((BitVec.ofInt 64 y &&& 255#64).toNat : Int) < 256 := by omega
                               constructor
                               · exact Int.le_trans (by decide) (Int.natCast_nonneg _)
                               · exact Int.le_trans (Int.le_of_lt this) (by decide))
/-- What l1Byte leaves. -/
def ByteRet (B : Nat) (w : World) (g : Nat) (a : Option Addr) (len cap : Nat) (e : Ending) (w' : World) : Prop :=
  ∃ x : Nat, x < 256 ∧ e = .returned (.int .i64 (x : Int)) ∧ w.grownBy w' (some g) ∧ CurAt B w' g a len cap

theorem grown_set (w : World) (g j : Nat) (v : Value) : w.grownBy (w.setCell ⟨g, j, none⟩ v) (some g) :=
  ⟨rfl, rfl, rfl, by simp [World.setCell], fun k _ hne => Below.heap_setCell _ _ _ _ (fun e => hne (by rw [e]))⟩
theorem grown_drewN (w : World) (n : Nat) (row : Option Nat) : w.grownBy (w.drewN n) row := ⟨rfl, rfl, rfl, Nat.le_refl _, fun _ _ _ => rfl⟩
theorem byteRet_end {B : Nat} {w : World} {g : Nat} {a : Option Addr} {len cap i : Nat} {h : Int} (hB : B ≤ g) (hi : i ≤ len) (hheap : w.heap[g]? = some (.cells #[.slice a len cap, .int .i64 i, .int .i64 h] 58 (0, 0))) (y h' : Int) (n m : Nat) :
    ByteRet B w g a len cap (.returned (.int .i64 (bits .and .i64 y 255))) (((w.setCell ⟨g, 2, none⟩ (.int .i64 h')).drewN n).drewN m) := by
  obtain ⟨x, hx, he⟩ := and255 y
  refine ⟨x, hx, by rw [he], grown_trans (grown_trans (grown_set w g 2 _) (grown_drewN _ _ _)) (grown_drewN _ _ _), hB, i, h', hi, ?_⟩
  exact heap_setCell_same w g 2 _ _ _ hheap
theorem byteRet_next {B : Nat} {w : World} {g : Nat} {a : Option Addr} {len cap i : Nat} {h : Int} (hB : B ≤ g) (hi : i < len) (hheap : w.heap[g]? = some (.cells #[.slice a len cap, .int .i64 i, .int .i64 h] 58 (0, 0))) (y h' : Int) (n : Nat) :
    ByteRet B w g a len cap (.returned (.int .i64 (bits .and .i64 y 255))) (((w.setCell ⟨g, 2, none⟩ (.int .i64 h')).drewN n).setCell ⟨g, 1, none⟩ (.int .i64 ((i : Int) + 1))) := by
  obtain ⟨x, hx, he⟩ := and255 y
  refine ⟨x, hx, by rw [he], grown_trans (grown_trans (grown_set w g 2 _) (grown_drewN _ _ _)) (grown_set _ g 1 _), hB, i + 1, h', hi, ?_⟩
  exact heap_setCell_same _ g 1 _ _ _ (show ((w.setCell ⟨g, 2, none⟩ (.int .i64 h')).drewN n).heap[g]? = _ from heap_setCell_same w g 2 _ _ _ hheap)

set_option maxHeartbeats 1000000 in
theorem l1Byte_end (B : Nat) (w : World) (g : Nat) (a : Option Addr) (len cap : Nat) (hc : CurAt B w g a len cap) (hcode : CodeIn B w a len) :
    Calls Try.prog 72 #[.pointer (some ⟨g, 0, none⟩)] w (ByteRet B w g a len cap) := by
  obtain ⟨hB, i, h, hi, hheap⟩ := hc
  have c0 : w.cell? ⟨g, 0, none⟩ = some (.slice a len cap) := by simp [World.cell?, hheap]
  have c1 : w.cell? ⟨g, 1, none⟩ = some (.int .i64 i) := by simp [World.cell?, hheap]
  have c2 : w.cell? ⟨g, 2, none⟩ = some (.int .i64 h) := by simp [World.cell?, hheap]
  have f1 : w.frozen? ⟨g, 1, none⟩ = false := by simp [World.frozen?, hheap]
  have f2 : w.frozen? ⟨g, 2, none⟩ = false := by simp [World.frozen?, hheap]
  replace hheap := hid hheap
  replace hcode := hid hcode
  by_cases hil : i < len
  · obtain ⟨hcl, hcc⟩ := hcode.out
    rcases hcc with hcc | ⟨b, off, rfl, hbB, hcell⟩
    · omega
    · obtain ⟨c, hci⟩ := hcell i hil
      have hci2 : ∀ v, (w.setCell ⟨g, 2, none⟩ v).cell? ⟨b, off + i, none⟩ = some (.int .u8 (c.toNat : Int)) := by
        intro v
        rw [World.cell?_setCell_other _ _ _ _ (by simp only [ne_eq, Addr.mk.injEq]; omega)]
        exact hci
      have hcb := toNat_lt c
      clear hcell hci hcode
      have hil2 : (i : Int) < (len : Int) := by omega
      go_enter Try.func72, Try.ntmps72
      go_wp2
      go_quiet (fail)
      go_wp2
      go_quiet (fail)
      go_wp2
      go_quiet (fail)
      go_wp2
      go_ret
      exact byteRet_next hB hil hheap.out _ _ _
  · obtain rfl : i = len := by omega
    go_enter Try.func72, Try.ntmps72
    go_wp2
    go_quiet (fail)
    go_wp2
    go_quiet (fail)
    go_wp2
    go_ret
    exact byteRet_end hB (Nat.le_refl _) hheap.out _ _ _ _
end Go.Proofs.Ytcjkgknmpgehbaa
