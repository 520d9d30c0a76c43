import Derived.WalkKit
import Derived.WalkLawsBesides
import Derived.WalkSpells
import Derived.ProofKit
import Derived.Outline
import Derived.RowKit
import Derived.Below
import Derived.Laws.BitsLemmas
import Derived.IntWalk
import Derived.Lib.Strings
import Derived.Laws.IdiomStrings
import Derived.Deep.RegionLaw
import Derived.Lib.OthersKept
import Derived.Deep.QuietTactic
import Derived.BigQuiet
import Derived.Test.YtgnomlcjikfdhaaGreatRows
import Derived.Test.YtgnomlcjikfdhaaGreatJ0Me
namespace Go.Proofs.YtgnomlcjikfdhaaGreat
open Go.RowKit
theorem Bd (x lo hi : Int) (w : World) (h1 : lo ≤ x) (h2 : x ≤ hi) :
 Calls Tryz.prog 63 #[.int .i64 x, .int .i64 lo, .int .i64 hi] w fun e w' => e = .returned (.bool true) ∧ w = w' := by
 go_enter Tryz.func63, Tryz.ntmps63
 go_wp2; go_ret; exact ⟨rfl, rfl⟩
theorem D5 (x lo hi : Int) (w : World) (h : x < lo ∨ hi < x) :
 Calls Tryz.prog 63 #[.int .i64 x, .int .i64 lo, .int .i64 hi] w fun e w' => e = .returned (.bool false) ∧ w = w' := by
 by_cases h1 : lo ≤ x
 · have h2 : hi < x := by omega
   have h3 : decide (x ≤ hi) = false := by simp; omega
   clear h; go_enter Tryz.func63, Tryz.ntmps63
   go_wp2; go_ret; exact ⟨rfl, rfl⟩
 · clear h
   go_enter Tryz.func63, Tryz.ntmps63
   go_wp2; go_ret; exact ⟨rfl, rfl⟩
theorem toNat_lt (c : UInt8) : c.toNat < 256 := c.toNat_lt
theorem hid {p : Prop} (h : p) : Hid p := h
set_option linter.unusedVariables false
def bv (b : UInt8) : Value := .int .u8 (b.toNat : Int)
def wO (w : World) (base : Nat) (v : Value) (bs : List UInt8) : Prop := w.ownsRow base 5 1 v bs.length (bs.map bv)
theorem wO.lit (w : World) : wO (w.alloc (.cells #[] 5)) w.heap.size (.slice (some ⟨w.heap.size, 0, none⟩) 0 0) [] := World.ownsRow_lit w #[] 0 (Nat.le_refl _) (Nat.zero_le _) rfl
theorem wO.drew {w : World} {base : Nat} {v : Value} {bs : List UInt8} (h : wO w base v bs) : wO w.drew base v bs := h
def eF (B : Nat) (w : World) (a : Option Addr) (len : Nat) : Prop :=
 len ≤ 1048576 ∧ (len = 0 ∨ ∃ b off, a = some ⟨b, off, none⟩ ∧ b < B ∧ ∀ i, i < len → ∃ c : UInt8, w.cell? ⟨b, off + i, none⟩ = some (.int .u8 (c.toNat : Int)))
theorem eF.below {B : Nat} {w w' : World} {a : Option Addr} {len : Nat} (h : eF B w a len) (hb : Below B w w') : eF B w' a len := by
 refine ⟨h.1, h.2.imp id ?_⟩; rintro ⟨b, off, ha, hB, hc⟩; refine ⟨b, off, ha, hB, fun i hi => ?_⟩
 obtain ⟨c, hcell⟩ := hc i hi; exact ⟨c, by rw [hb.cell (p := ⟨b, off + i, none⟩) hB]; exact hcell⟩
def fQ (B : Nat) (w : World) (g : Nat) (a : Option Addr) (len cap : Nat) : Prop :=
 B ≤ g ∧ ∃ (i : Nat) (h : Int), i ≤ len ∧ w.heap[g]? = some (.cells #[.slice a len cap, .int .i64 i, .int .i64 h] 94 (0, 0))
theorem aj {w w1 w2 : World} {row : Option Nat} (h : w.grownBy w1 row) (k : w1.grownBy w2 row) : w.grownBy w2 row :=
 ⟨k.os.trans h.os, k.tape.trans h.tape, k.output.trans h.output, Nat.le_trans h.size k.size, fun i hi hne => (k.block i (Nat.lt_of_lt_of_le hi h.size) hne).trans (h.block i hi hne)⟩
theorem fQ.below {B : Nat} {w w' : World} {g : Nat} {a : Option Addr} {len cap : Nat} (h : fQ B w g a len cap) (hg : w.grownBy w' (some g)) : Below B w w' := by
 obtain ⟨hB, i, hh, hi, hheap⟩ := h; have hlt : g < w.heap.size := (Array.getElem?_eq_some_iff.1 hheap).1; exact ⟨hg.os, hg.tape, hg.output, hg.size, fun k hk => hg.block k (by omega) (fun e => by cases e; omega)⟩
theorem H6 (y : Int) : ∃ n : Nat, n < 256 ∧ bits .and .i64 y 255 = (n : Int) := by
 refine ⟨(BitVec.ofInt 64 y &&& 255#64).toNat, ?_, ?_⟩
 · rw [BitVec.toNat_and]
   exact Nat.lt_of_le_of_lt Nat.and_le_right (by decide)
 · show IntKind.i64.wrap _ = _
   have hlt : (BitVec.ofInt 64 y &&& 255#64).toNat < 256 := by
    rw [BitVec.toNat_and]; exact Nat.lt_of_le_of_lt Nat.and_le_right (by decide)
   exact IntWalk.i64_in _ (by have : ((BitVec.ofInt 64 y &&& 255#64).toNat : Int) < 256 := by omega
                              constructor
                              · exact Int.le_trans (by decide) (Int.natCast_nonneg _)
                              · exact Int.le_trans (Int.le_of_lt this) (by decide))
def yO (B : Nat) (w : World) (g : Nat) (a : Option Addr) (len cap : Nat) (e : Ending) (w' : World) : Prop :=
 ∃ x : Nat, x < 256 ∧ e = .returned (.int .i64 (x : Int)) ∧ w.grownBy w' (some g) ∧ fQ B w' g a len cap
theorem tH (w : World) (g j : Nat) (v : Value) : w.grownBy (w.setCell ⟨g, j, none⟩ v) (some g) :=
 ⟨rfl, rfl, rfl, by simp [World.setCell], fun k _ hne => Below.heap_setCell _ _ _ _ (fun e => hne (by rw [e]))⟩
theorem grown_drewN (w : World) (n : Nat) (row : Option Nat) : w.grownBy (w.drewN n) row := ⟨rfl, rfl, rfl, Nat.le_refl _, fun _ _ _ => rfl⟩
theorem CY {B : Nat} {w : World} {g : Nat} {a : Option Addr} {len cap i : Nat} {h : Int} (hB : B ≤ g) (hi : i ≤ len) (hheap : w.heap[g]? = some (.cells #[.slice a len cap, .int .i64 i, .int .i64 h] 94 (0, 0))) (y h' : Int) (n m : Nat) :
 yO B w g a len cap (.returned (.int .i64 (bits .and .i64 y 255))) (((w.setCell ⟨g, 2, none⟩ (.int .i64 h')).drewN n).drewN m) := by
 obtain ⟨x, hx, he⟩ := H6 y; refine ⟨x, hx, by rw [he], aj (aj (tH w g 2 _) (grown_drewN _ _ _)) (grown_drewN _ _ _), hB, i, h', hi, ?_⟩
 exact heap_setCell_same w g 2 _ _ _ hheap
theorem Bo {B : Nat} {w : World} {g : Nat} {a : Option Addr} {len cap i : Nat} {h : Int} (hB : B ≤ g) (hi : i < len) (hheap : w.heap[g]? = some (.cells #[.slice a len cap, .int .i64 i, .int .i64 h] 94 (0, 0))) (y h' : Int) (n : Nat) :
 yO B w g a len cap (.returned (.int .i64 (bits .and .i64 y 255))) (((w.setCell ⟨g, 2, none⟩ (.int .i64 h')).drewN n).setCell ⟨g, 1, none⟩ (.int .i64 ((i : Int) + 1))) := by
 obtain ⟨x, hx, he⟩ := H6 y; refine ⟨x, hx, by rw [he], aj (aj (tH w g 2 _) (grown_drewN _ _ _)) (tH _ g 1 _), hB, i + 1, h', hi, ?_⟩
 exact heap_setCell_same _ g 1 _ _ _ (show ((w.setCell ⟨g, 2, none⟩ (.int .i64 h')).drewN n).heap[g]? = _ from heap_setCell_same w g 2 _ _ _ hheap)
set_option maxHeartbeats 1000000 in
theorem mi (B : Nat) (w : World) (g : Nat) (a : Option Addr) (len cap : Nat) (hc : fQ B w g a len cap) (hcode : eF B w a len) :
 Calls Tryz.prog 96 #[.pointer (some ⟨g, 0, none⟩)] w (yO B w g a len cap) := by
 obtain ⟨hB, i, h, hi, hheap⟩ := hc; have c0 : w.cell? ⟨g, 0, none⟩ = some (.slice a len cap) := by simp [World.cell?, hheap]
 have c1 : w.cell? ⟨g, 1, none⟩ = some (.int .i64 i) := by simp [World.cell?, hheap]
 have c2 : w.cell? ⟨g, 2, none⟩ = some (.int .i64 h) := by simp [World.cell?, hheap]
 have f1 : w.frozen? ⟨g, 1, none⟩ = false := by simp [World.frozen?, hheap]
 have f2 : w.frozen? ⟨g, 2, none⟩ = false := by simp [World.frozen?, hheap]
 replace hheap := hid hheap; replace hcode := hid hcode; by_cases hil : i < len
 · obtain ⟨hcl, hcc⟩ := hcode.out
   rcases hcc with hcc | ⟨b, off, rfl, hbB, hcell⟩
   · omega
   · obtain ⟨c, hci⟩ := hcell i hil
     have hci2 : ∀ v, (w.setCell ⟨g, 2, none⟩ v).cell? ⟨b, off + i, none⟩ = some (.int .u8 (c.toNat : Int)) := by
      intro v; rw [World.cell?_setCell_other _ _ _ _ (by simp only [ne_eq, Addr.mk.injEq]; omega)]
      exact hci
     have hcb := toNat_lt c; clear hcell hci hcode; have hil2 : (i : Int) < (len : Int) := by omega
     go_enter Tryz.func96, Tryz.ntmps96
     go_wp2; go_quiet (fail)
     go_wp2; go_quiet (fail)
     go_wp2; go_quiet (fail)
     go_wp2; go_ret; exact Bo hB hil hheap.out _ _ _
 · obtain rfl : i = len := by omega
   go_enter Tryz.func96, Tryz.ntmps96
   go_wp2; go_quiet (fail)
   go_wp2; go_quiet (fail)
   go_wp2; go_ret; exact CY hB (Nat.le_refl _) hheap.out _ _ _ _
def Fit (x : Int) : Prop := -9223372036854775808 ≤ x ∧ x ≤ 9223372036854775807
def kG (lo hi : Int) (B : Nat) (w : World) (g : Nat) (a : Option Addr) (len cap : Nat) (e : Ending) (w' : World) : Prop :=
 ∃ x : Int, lo ≤ x ∧ x ≤ hi ∧ e = .returned (.int .i64 x) ∧ w.grownBy w' (some g) ∧ fQ B w' g a len cap
theorem kG.mk' {lo hi : Int} {B : Nat} {w : World} {g : Nat} {a : Option Addr} {len cap : Nat} {x : Int} {w' : World} (h1 : lo ≤ x) (h2 : x ≤ hi) (hg : w.grownBy w' (some g)) (hc : fQ B w' g a len cap) : kG lo hi B w g a len cap (.returned (.int .i64 x)) w' :=
 ⟨x, h1, h2, rfl, hg, hc⟩
set_option maxHeartbeats 800000 in
theorem zQ (B : Nat) (w : World) (g : Nat) (a : Option Addr) (len cap : Nat) (hc : fQ B w g a len cap) (hcode : eF B w a len) (n : Nat) (hn : 1 ≤ n) (hn2 : n ≤ 256) :
 Calls Tryz.prog 59 #[.pointer (some ⟨g, 0, none⟩), .int .i64 n] w (kG 0 ((n : Int) - 1) B w g a len cap) := by
 replace hc := hid hc; replace hcode := hid hcode; go_enter Tryz.func59, Tryz.ntmps59
 go_wp2_with fail; refine (mi B _ g a len cap hc.out hcode.out).mono ?_; rintro e w1 ⟨x, hx, rfl, hg, hc1⟩; have hm1 : 0 ≤ (x : Int) % (n : Int) := Int.emod_nonneg _ (by omega)
 have hm2 : (x : Int) % (n : Int) < (n : Int) := Int.emod_lt_of_pos _ (by omega)
 replace hc1 := hid hc1; go_wp2_with fail; go_ret; exact kG.mk' hm1 (by omega) hg hc1.out
set_option maxHeartbeats 1600000 in
theorem zT (B : Nat) (w : World) (g : Nat) (a : Option Addr) (len cap : Nat) (hc : fQ B w g a len cap) (hcode : eF B w a len) (n : Nat) (hn : 256 < n) (hn2 : n ≤ 4294967296) :
 Calls Tryz.prog 59 #[.pointer (some ⟨g, 0, none⟩), .int .i64 n] w (kG 0 ((n : Int) - 1) B w g a len cap) := by
 replace hc := hid hc; replace hcode := hid hcode; go_enter Tryz.func59, Tryz.ntmps59
 go_wp2_with fail; refine (mi B _ g a len cap hc.out hcode.out).mono ?_; rintro e w1 ⟨x1, hx1, rfl, hg1, hc1⟩; have hcode1 := hid (hcode.out.below (hc.out.below hg1)); replace hc1 := hid hc1; go_wp2_with fail; refine (mi B _ g a len cap hc1.out hcode1.out).mono ?_; rintro e w2 ⟨x2, hx2, rfl, hg2, hc2⟩; have hcode2 := hid (hcode1.out.below (hc1.out.below hg2)); replace hc2 := hid hc2; go_wp2_with fail
 refine (mi B _ g a len cap hc2.out hcode2.out).mono ?_; rintro e w3 ⟨x3, hx3, rfl, hg3, hc3⟩; have hcode3 := hid (hcode2.out.below (hc2.out.below hg3)); replace hc3 := hid hc3; go_wp2_with fail; refine (mi B _ g a len cap hc3.out hcode3.out).mono ?_; rintro e w4 ⟨x4, hx4, rfl, hg4, hc4⟩; replace hc4 := hid hc4; have hg := aj (aj (aj hg1 hg2) hg3) hg4; have hm1 : 0 ≤ ((x1 : Int) * 16777216 + (x2 : Int) * 65536 + (x3 : Int) * 256 + (x4 : Int)) % (n : Int) := Int.emod_nonneg _ (by omega)
 have hm2 : ((x1 : Int) * 16777216 + (x2 : Int) * 65536 + (x3 : Int) * 256 + (x4 : Int)) % (n : Int) < (n : Int) := Int.emod_lt_of_pos _ (by omega)
 clear hg1 hg2 hg3 hg4; go_wp2_with fail; go_ret; exact kG.mk' hm1 (by omega) hg hc4.out
theorem CU (B : Nat) (w : World) (g : Nat) (a : Option Addr) (len cap : Nat) (hc : fQ B w g a len cap) (hcode : eF B w a len) (n : Nat) (hn : 1 ≤ n) (hn2 : n ≤ 4294967296) :
 Calls Tryz.prog 59 #[.pointer (some ⟨g, 0, none⟩), .int .i64 n] w (kG 0 ((n : Int) - 1) B w g a len cap) := by
 by_cases h : n ≤ 256
 · exact zQ B w g a len cap hc hcode n hn h
 · exact zT B w g a len cap hc hcode n (by omega) hn2
def Gi (w : World) (a : Option Addr) (len cap : Nat) (e : Ending) (w' : World) : Prop :=
 ∃ g : Nat, e = .returned (.pointer (some ⟨g, 0, none⟩)) ∧ Below w.heap.size w w' ∧ fQ w.heap.size w' g a len cap
theorem xn (w : World) (a : Option Addr) (len cap : Nat) (h : Int) : Gi w a len cap (.returned (.pointer (some ⟨w.heap.size, 0, none⟩))) (w.alloc (.cells #[.slice a len cap, .int .i64 0, .int .i64 h] 94)) :=
 ⟨w.heap.size, rfl, (Below.refl _ _).alloc (Nat.le_refl _) _, Nat.le_refl _, 0, h, Nat.zero_le _, heap_alloc_new w _⟩
set_option maxHeartbeats 800000 in
set_option maxRecDepth 100000 in
theorem G9 (w : World) (a : Option Addr) (len cap : Nat) (hcode : eF w.heap.size w a len) :
 Calls Tryz.prog 46 #[.slice a len cap] w (Gi w a len cap) := by
 obtain ⟨hlen, hcc⟩ := hcode; replace hcc := hid hcc; go_enter Tryz.func46, Tryz.ntmps46
 go_wp2
 go_loop [3, 4] (fun h i => ∃ (k : Nat) (hh : Int), k ≤ len ∧ i = .int .i64 k ∧ h = .int .i64 hh) (fun _ i => len - (intOf i).toNat)
 case atStart => exact ⟨0, _, Nat.zero_le _, rfl, rfl⟩
 case round =>
  obtain ⟨k, hh, hk, rfl, rfl⟩ := hrel; by_cases hgo : k < len ∧ k < 4000
  · obtain ⟨hg1, hg2⟩ := hgo
    rcases hcc.out with h0 | ⟨b, off, rfl, hb, hcell⟩
    · omega
    · obtain ⟨c, hci⟩ := hcell k hg1
      have hcb := toNat_lt c; clear hcell; go_wp2; go_round
      case rel => exact ⟨k + 1, _, by omega, by go_num, rfl⟩
      case measure => simp [intOf]; omega
  · by_cases hk2 : k < len
    · have hk3 : ¬ k < 4000 := by omega
      clear hgo; go_wp2; go_ret; exact xn _ _ _ _ _
    · clear hgo
      go_wp2; go_ret; exact xn _ _ _ _ _
theorem CX (B : Nat) (w : World) (g : Nat) (a : Option Addr) (len cap : Nat) (hc : fQ B w g a len cap) (hcode : eF B w a len) (N : Int) (n : Nat) (hN : N = (n : Int)) (hn : 1 ≤ n) (hn2 : n ≤ 4294967296) :
 Calls Tryz.prog 59 #[.pointer (some ⟨g, 0, none⟩), .int .i64 N] w (kG 0 (N - 1) B w g a len cap) := by
 subst hN; exact CU B w g a len cap hc hcode n hn hn2
theorem fQ.lt {B : Nat} {w : World} {g : Nat} {a : Option Addr} {len cap : Nat} (h : fQ B w g a len cap) : g < w.heap.size := by
 obtain ⟨_, i, hh, _, hheap⟩ := h; exact (Array.getElem?_eq_some_iff.1 hheap).1
theorem fQ.alloc {B : Nat} {w : World} {g : Nat} {a : Option Addr} {len cap : Nat} (h : fQ B w g a len cap) (o : Obj) : fQ B (w.alloc o) g a len cap := by
 have hlt := h.lt; obtain ⟨hB, i, hh, hi, hheap⟩ := h; exact ⟨hB, i, hh, hi, by rw [Below.heap_alloc _ _ _ hlt]; exact hheap⟩
theorem fQ.over {B base : Nat} {w w' : World} {g : Nat} {a : Option Addr} {len cap : Nat} (h : fQ B w g a len cap) (hg : g < base) (hb : Below base w w') : fQ B w' g a len cap := by
 obtain ⟨hB, i, hh, hi, hheap⟩ := h; exact ⟨hB, i, hh, hi, by rw [hb.block g hg]; exact hheap⟩
def G6 (B : Nat) (w : World) (g : Nat) (a : Option Addr) (len cap : Nat) (e : Ending) (w' : World) : Prop :=
 ∃ x : Int, Fit x ∧ e = .returned (.int .i64 x) ∧ Below B w w' ∧ fQ B w' g a len cap
theorem G6.mk' {B : Nat} {w : World} {g : Nat} {a : Option Addr} {len cap : Nat} {x : Int} {w' : World} (h1 : Fit x) (hg : Below B w w') (hc : fQ B w' g a len cap) : G6 B w g a len cap (.returned (.int .i64 x)) w' :=
 ⟨x, h1, rfl, hg, hc⟩
end Go.Proofs.YtgnomlcjikfdhaaGreat
namespace Go.Proofs.YtgnomlcjikfdhaaGreat
open Go.RowKit
set_option linter.unusedVariables false
theorem EC {w : World} {a : Option Addr} {len cap : Nat} {zs : List Int} (h : pO .u8 w a len cap zs) (hl : len ≤ 1048576) : eF w.heap.size w a len := by
 refine ⟨hl, ?_⟩
 rcases h with ⟨_, h0, _, _⟩ | ⟨x, rfl, hlc, hcm, hz, hcell, hwf⟩
 · exact .inl h0
 · rcases Nat.eq_zero_or_pos len with h0 | h0
   · exact .inl h0
   · have c0 := hcell 0 (by omega)
     obtain ⟨b, off, spot⟩ := x; have hspot : spot = none := by simpa [Addr.add] using World.cell?_spot c0
     subst hspot; refine .inr ⟨b, off, rfl, ?_, fun i hi => ?_⟩
     · have c0' : w.cell? ⟨b, off, none⟩ = some (.int .u8 (zs.getD 0 0)) := by simpa [Addr.add] using c0
       rcases Nat.lt_or_ge b w.heap.size with h1 | h1
       · exact h1
       · unfold World.cell? at c0'
         rw [show w.heap[(⟨b, off, none⟩ : Addr).block]? = none from Array.getElem?_eq_none h1] at c0'
         cases c0'
     · have ci := hcell i (by omega)
       have hm : zs.getD i 0 ∈ zs := by
        rw [List.getD_eq_getElem?_getD, List.getElem?_eq_getElem (show i < zs.length by omega)]
        exact List.getElem_mem _
       obtain ⟨c, hc⟩ := byte_of_wf (hwf _ hm); rw [hc] at ci; refine ⟨c, ?_⟩; by_cases hi0 : i = 0
       · subst hi0; simpa [Addr.add] using ci
       · simpa [Addr.add, hi0] using ci
end Go.Proofs.YtgnomlcjikfdhaaGreat
