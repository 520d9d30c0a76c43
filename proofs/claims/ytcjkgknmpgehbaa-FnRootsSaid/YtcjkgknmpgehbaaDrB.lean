/- The drawn numbers and texts (spec/l01_draw.go, spec/l01_num.go): l1New, l1Below, l1PickInt. -/
import Derived.Test.YtcjkgknmpgehbaaDrA
namespace Go.Proofs.Ytcjkgknmpgehbaa
open Go.RowKit
set_option linter.unusedVariables false

/-- A number that fits an int. -/
def Fit (x : Int) : Prop := -9223372036854775808 ≤ x ∧ x ≤ 9223372036854775807
/-- A number from lo to hi comes back; the cursor has moved. -/
def RangeRet (lo hi : Int) (B : Nat) (w : World) (g : Nat) (a : Option Addr) (len cap : Nat) (e : Ending) (w' : World) : Prop :=
  ∃ x : Int, lo ≤ x ∧ x ≤ hi ∧ e = .returned (.int .i64 x) ∧ w.grownBy w' (some g) ∧ CurAt B w' g a len cap
theorem RangeRet.mk' {lo hi : Int} {B : Nat} {w : World} {g : Nat} {a : Option Addr} {len cap : Nat} {x : Int} {w' : World} (h1 : lo ≤ x) (h2 : x ≤ hi) (hg : w.grownBy w' (some g)) (hc : CurAt B w' g a len cap) : RangeRet lo hi B w g a len cap (.returned (.int .i64 x)) w' :=
  ⟨x, h1, h2, rfl, hg, hc⟩

theorem l1Below_zero (w : World) (g : Nat) (n : Int) (hn : n ≤ 0) :
    Calls Try.prog 60 #[.pointer (some ⟨g, 0, none⟩), .int .i64 n] w fun e w' => e = .returned (.int .i64 0) ∧ w = w' := by
  go_enter Try.func60, Try.ntmps60
  go_wp2
  go_ret
  exact ⟨rfl, rfl⟩
set_option maxHeartbeats 800000 in
theorem l1Below_small (B : Nat) (w : World) (g : Nat) (a : Option Addr) (len cap : Nat) (hc : CurAt B w g a len cap) (hcode : CodeIn B w a len) (n : Nat) (hn : 1 ≤ n) (hn2 : n ≤ 256) :
    Calls Try.prog 60 #[.pointer (some ⟨g, 0, none⟩), .int .i64 n] w (RangeRet 0 ((n : Int) - 1) B w g a len cap) := by
  replace hc := hid hc
  replace hcode := hid hcode
  go_enter Try.func60, Try.ntmps60
  go_wp2_with fail
  refine (l1Byte_end B _ g a len cap hc.out hcode.out).mono ?_
  rintro e w1 ⟨x, hx, rfl, hg, hc1⟩
  have hm1 : 0 ≤ (x : Int) % (n : Int) := Int.emod_nonneg _ (by omega)
  have hm2 : (x : Int) % (n : Int) < (n : Int) := Int.emod_lt_of_pos _ (by omega)
  replace hc1 := hid hc1
  go_wp2_with fail
  go_ret
  exact RangeRet.mk' hm1 (by omega) hg hc1.out
set_option maxHeartbeats 1600000 in
theorem l1Below_large (B : Nat) (w : World) (g : Nat) (a : Option Addr) (len cap : Nat) (hc : CurAt B w g a len cap) (hcode : CodeIn B w a len) (n : Nat) (hn : 256 < n) (hn2 : n ≤ 4294967296) :
    Calls Try.prog 60 #[.pointer (some ⟨g, 0, none⟩), .int .i64 n] w (RangeRet 0 ((n : Int) - 1) B w g a len cap) := by
  replace hc := hid hc
  replace hcode := hid hcode
  go_enter Try.func60, Try.ntmps60
  go_wp2_with fail
  refine (l1Byte_end B _ g a len cap hc.out hcode.out).mono ?_
  rintro e w1 ⟨x1, hx1, rfl, hg1, hc1⟩
  have hcode1 := hid (hcode.out.below (hc.out.below hg1))
  replace hc1 := hid hc1
  go_wp2_with fail
  refine (l1Byte_end B _ g a len cap hc1.out hcode1.out).mono ?_
  rintro e w2 ⟨x2, hx2, rfl, hg2, hc2⟩
  have hcode2 := hid (hcode1.out.below (hc1.out.below hg2))
  replace hc2 := hid hc2
  go_wp2_with fail
  refine (l1Byte_end B _ g a len cap hc2.out hcode2.out).mono ?_
  rintro e w3 ⟨x3, hx3, rfl, hg3, hc3⟩
  have hcode3 := hid (hcode2.out.below (hc2.out.below hg3))
  replace hc3 := hid hc3
  go_wp2_with fail
  refine (l1Byte_end B _ g a len cap hc3.out hcode3.out).mono ?_
  rintro e w4 ⟨x4, hx4, rfl, hg4, hc4⟩
  replace hc4 := hid hc4
  have hg := grown_trans (grown_trans (grown_trans hg1 hg2) hg3) hg4
  have hm1 : 0 ≤ ((x1 : Int) * 16777216 + (x2 : Int) * 65536 + (x3 : Int) * 256 + (x4 : Int)) % (n : Int) := Int.emod_nonneg _ (by omega)
  have hm2 : ((x1 : Int) * 16777216 + (x2 : Int) * 65536 + (x3 : Int) * 256 + (x4 : Int)) % (n : Int) < (n : Int) := Int.emod_lt_of_pos _ (by omega)
  clear hg1 hg2 hg3 hg4
  go_wp2_with fail
  go_ret
  exact RangeRet.mk' hm1 (by omega) hg hc4.out
theorem l1Below_any (B : Nat) (w : World) (g : Nat) (a : Option Addr) (len cap : Nat) (hc : CurAt B w g a len cap) (hcode : CodeIn B w a len) (n : Nat) (hn : 1 ≤ n) (hn2 : n ≤ 4294967296) :
    Calls Try.prog 60 #[.pointer (some ⟨g, 0, none⟩), .int .i64 n] w (RangeRet 0 ((n : Int) - 1) B w g a len cap) := by
  by_cases h : n ≤ 256
  · exact l1Below_small B w g a len cap hc hcode n hn h
  · exact l1Below_large B w g a len cap hc hcode n (by omega) hn2

/-- What l1New leaves. -/
def NewRet (w : World) (a : Option Addr) (len cap : Nat) (e : Ending) (w' : World) : Prop :=
  ∃ g : Nat, e = .returned (.pointer (some ⟨g, 0, none⟩)) ∧ Below w.heap.size w w' ∧ CurAt w.heap.size w' g a len cap
theorem newRet_end (w : World) (a : Option Addr) (len cap : Nat) (h : Int) : NewRet w a len cap (.returned (.pointer (some ⟨w.heap.size, 0, none⟩))) (w.alloc (.cells #[.slice a len cap, .int .i64 0, .int .i64 h] 58)) :=
  ⟨w.heap.size, rfl, (Below.refl _ _).alloc (Nat.le_refl _) _, Nat.le_refl _, 0, h, Nat.zero_le _, heap_alloc_new w _⟩
set_option maxHeartbeats 800000 in
set_option maxRecDepth 100000 in
theorem l1New_any (w : World) (a : Option Addr) (len cap : Nat) (hcode : CodeIn w.heap.size w a len) :
    Calls Try.prog 50 #[.slice a len cap] w (NewRet w a len cap) := by
  obtain ⟨hlen, hcc⟩ := hcode
  replace hcc := hid hcc
  go_enter Try.func50, Try.ntmps50
  go_wp2
  go_loop [3, 4] (fun h i => ∃ (k : Nat) (hh : Int), k ≤ len ∧ i = .int .i64 k ∧ h = .int .i64 hh) (fun _ i => len - (intOf i).toNat)
  case atStart => exact ⟨0, _, Nat.zero_le _, rfl, rfl⟩
  case round =>
    obtain ⟨k, hh, hk, rfl, rfl⟩ := hrel
    by_cases hgo : k < len ∧ k < 4000
    · obtain ⟨hg1, hg2⟩ := hgo
      rcases hcc.out with h0 | ⟨b, off, rfl, hb, hcell⟩
      · omega
      · obtain ⟨c, hci⟩ := hcell k hg1
        have hcb := toNat_lt c
        clear hcell
        go_wp2
        go_round
        case rel => exact ⟨k + 1, _, by omega, by go_num, rfl⟩
        case measure => simp [intOf]; omega
    · by_cases hk2 : k < len
      · have hk3 : ¬ k < 4000 := by omega
        clear hgo
        go_wp2
        go_ret
        exact newRet_end _ _ _ _ _
      · clear hgo
        go_wp2
        go_ret
        exact newRet_end _ _ _ _ _

/-- A list of numbers in a block of its own. -/
def Ints (w : World) (gl n : Nat) : Prop := ∀ j, j < n → ∃ v : Int, Fit v ∧ w.cell? ⟨gl, j, none⟩ = some (.int .i64 v)
set_option maxHeartbeats 800000 in
theorem l1PickInt_any (B : Nat) (w : World) (g : Nat) (a : Option Addr) (len cap : Nat) (hc : CurAt B w g a len cap) (hcode : CodeIn B w a len) (gl n : Nat) (hn : 1 ≤ n) (hn2 : n ≤ 256) (hgl : gl ≠ g) (hl : Ints w gl n) :
    Calls Try.prog 69 #[.pointer (some ⟨g, 0, none⟩), .slice (some ⟨gl, 0, none⟩) n n] w (RangeRet (-9223372036854775808) 9223372036854775807 B w g a len cap) := by
  replace hc := hid hc
  replace hcode := hid hcode
  replace hl := hid hl
  go_enter Try.func69, Try.ntmps69
  go_wp2_with fail
  refine (l1Below_small B _ g a len cap hc.out hcode.out n hn hn2).mono ?_
  rintro e w1 ⟨x, hx0, hx1, rfl, hg, hc1⟩
  obtain ⟨j, rfl⟩ := Int.eq_ofNat_of_zero_le hx0
  have hj : j < n := by omega
  obtain ⟨v, hv, hcell⟩ := hl.out j hj
  have hcell1 : w1.cell? ⟨gl, j, none⟩ = some (.int .i64 v) := hg.cell hcell (by simp; omega)
  replace hc1 := hid hc1
  replace hcell := hid hcell
  go_wp2_with fail
  go_ret
  exact RangeRet.mk' hv.1 hv.2 hg hc1.out
end Go.Proofs.Ytcjkgknmpgehbaa
