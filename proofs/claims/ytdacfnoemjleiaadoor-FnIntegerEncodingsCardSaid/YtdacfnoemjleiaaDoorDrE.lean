/- The drawers of chapter 1 by contract. -/
import Derived.Test.YtdacfnoemjleiaaDoorDrD
namespace Go.Proofs.YtdacfnoemjleiaaDoor
open Go.RowKit
set_option linter.unusedVariables false

/-- What the walk is told of a slice of integers that came in. -/
def IsRow (k : IntKind) (w : World) (a : Option Addr) (len cap : Nat) (zs : List Int) : Prop :=
  (a = none ∧ len = 0 ∧ cap = 0 ∧ zs = []) ∨
  ∃ x, a = some x ∧ len ≤ cap ∧ cap ≤ maxLen ∧ zs.length = cap ∧ (∀ i, i < zs.length → w.cell? (x.add i) = some (.int k (zs.getD i 0))) ∧ ∀ n ∈ zs, (Lit.int k n).wf = true
theorem byte_of_wf {n : Int} (h : (Lit.int .u8 n).wf = true) : ∃ c : UInt8, n = (c.toNat : Int) := by
  simp [Lit.wf, IntKind.min, IntKind.max, IntKind.signed, IntKind.bits] at h
  refine ⟨UInt8.ofNat n.toNat, ?_⟩
  simp
  omega
theorem codeIn_row {w : World} {a : Option Addr} {len cap : Nat} {zs : List Int} (h : IsRow .u8 w a len cap zs) (hl : len ≤ 1048576) : CodeIn w.heap.size w a len := by
  refine ⟨hl, ?_⟩
  rcases h with ⟨_, h0, _, _⟩ | ⟨x, rfl, hlc, hcm, hz, hcell, hwf⟩
  · exact .inl h0
  · rcases Nat.eq_zero_or_pos len with h0 | h0
    · exact .inl h0
    · have c0 := hcell 0 (by omega)
      obtain ⟨b, off, spot⟩ := x
      have hspot : spot = none := by simpa [Addr.add] using World.cell?_spot c0
      subst hspot
      refine .inr ⟨b, off, rfl, ?_, fun i hi => ?_⟩
      · have c0' : w.cell? ⟨b, off, none⟩ = some (.int .u8 (zs.getD 0 0)) := by simpa [Addr.add] using c0
        rcases Nat.lt_or_ge b w.heap.size with h1 | h1
        · exact h1
        · unfold World.cell? at c0'
          rw [show w.heap[(⟨b, off, none⟩ : Addr).block]? = none from Array.getElem?_eq_none h1] at c0'
          cases c0'
      · have ci := hcell i (by omega)
        have hm : zs.getD i 0 ∈ zs := by
          rw [List.getD_eq_getElem?_getD, List.getElem?_eq_getElem (show i < zs.length by omega)]
          exact List.getElem_mem _
        obtain ⟨c, hc⟩ := byte_of_wf (hwf _ hm)
        rw [hc] at ci
        refine ⟨c, ?_⟩
        by_cases hi0 : i = 0
        · subst hi0; simpa [Addr.add] using ci
        · simpa [Addr.add, hi0] using ci
def OneRet (w : World) (e : Ending) (w' : World) : Prop := ∃ x : Int, Fit x ∧ e = .returned (.int .i64 x) ∧ Below w.heap.size w w'
def TwoRet (w : World) (e : Ending) (w' : World) : Prop := ∃ x y : Int, Fit x ∧ -1 ≤ y ∧ y ≤ 8 ∧ e = .returned (.tuple #[.int .i64 x, .int .i64 y]) ∧ Below w.heap.size w w'

theorem drawV_any (w : World) (a : Option Addr) (len cap : Nat) (hcode : CodeIn w.heap.size w a len) :
    Calls Tryd.prog 7 #[.slice a len cap] w (OneRet w) := by
  replace hcode := hid hcode
  go_enter Tryd.func7, Tryd.ntmps7
  go_wp2_with fail
  refine (l1New_any _ a len cap hcode.out).mono ?_
  rintro e w1 ⟨g, rfl, hb1, hc1⟩
  have hcode1 := hid (hcode.out.below hb1)
  replace hc1 := hid hc1
  go_wp2_with fail
  refine (l1Num_any _ _ g a len cap hc1.out hcode1.out).mono ?_
  rintro e w2 ⟨x, hx, rfl, hb2, hc2⟩
  have hb := hb1.trans hb2
  replace hx := hid hx
  clear hb1 hb2 hc2
  go_wp2_with fail
  go_ret
  exact ⟨x, hx.out, rfl, hb⟩
theorem drawX_any (w : World) (a : Option Addr) (len cap : Nat) (hcode : CodeIn w.heap.size w a len) :
    Calls Tryd.prog 8 #[.slice a len cap] w (TextRet 40 w.heap.size w) := by
  replace hcode := hid hcode
  go_enter Tryd.func8, Tryd.ntmps8
  go_wp2_with fail
  refine (l1New_any _ a len cap hcode.out).mono ?_
  rintro e w1 ⟨g, rfl, hb1, hc1⟩
  have hcode1 := hid (hcode.out.below hb1)
  replace hc1 := hid hc1
  go_wp2_with fail
  refine (l1Text_any _ _ g a len cap hc1.out hcode1.out 40 40 rfl (by omega)).mono ?_
  rintro e w2 ⟨bs, hbs, rfl, hb2⟩
  have hb := hb1.trans hb2
  clear hb1 hb2
  go_wp2_with fail
  go_ret
  exact TextRet.mk' hbs hb
set_option maxHeartbeats 800000 in
theorem drawF_any (w : World) (a : Option Addr) (len cap : Nat) (hcode : CodeIn w.heap.size w a len) :
    Calls Tryd.prog 11 #[.slice a len cap] w (TwoRet w) := by
  replace hcode := hid hcode
  go_enter Tryd.func11, Tryd.ntmps11
  go_wp2_with fail
  refine (l1New_any _ a len cap hcode.out).mono ?_
  rintro e w1 ⟨g, rfl, hb1, hc1⟩
  have hcode1 := hid (hcode.out.below hb1)
  replace hc1 := hid hc1
  go_wp2_with fail
  refine (l1Num_any _ _ g a len cap hc1.out hcode1.out).mono ?_
  rintro e w2 ⟨x, hx, rfl, hb2, hc2⟩
  have hcode2 := hid (hcode1.out.below hb2)
  have hb := hb1.trans hb2
  replace hx := hid hx
  replace hc2 := hid hc2
  clear hb1 hb2
  go_wp2_with fail
  refine (l1Below_lit _ _ g a len cap hc2.out hcode2.out 10 10 rfl (by omega) (by omega)).mono ?_
  rintro e w3 ⟨y, hy0, hy1, rfl, hg3, hc3⟩
  have hb3 := hb.trans (hc2.out.below hg3)
  clear hg3 hc3 hb
  go_wp2_with fail
  go_ret2
  exact ⟨x, y - 1, hx.out, by omega, by omega, rfl, hb3⟩
theorem big_no (w : World) (a : Option Addr) (len cap : Nat) (h : len ≤ 1048576) :
    Calls Tryd.prog 6 #[.slice a len cap] w fun e w' => e = .returned (.bool false) ∧ w = w' := by
  have h2 : decide (1048576 < (len : Int)) = false := by simp; omega
  go_enter Tryd.func6, Tryd.ntmps6
  go_wp2
  go_ret
  exact ⟨rfl, rfl⟩
theorem big_yes (w : World) (a : Option Addr) (len cap : Nat) (h : 1048576 < len) :
    Calls Tryd.prog 6 #[.slice a len cap] w fun e w' => e = .returned (.bool true) ∧ w = w' := by
  have h2 : decide (1048576 < (len : Int)) = true := by simp; omega
  go_enter Tryd.func6, Tryd.ntmps6
  go_wp2
  go_ret
  exact ⟨rfl, rfl⟩
end Go.Proofs.YtdacfnoemjleiaaDoor
