/- The ends of the laws over slices of ints: rows that came in, comparisons that hold. -/
import Derived.Test.YtpjlamnjiilgbaaIR
import Derived.Test.YtpjlamnjiilgbaaLI
import Derived.Test.YtpjlamnjiilgbaaMX
import Derived.OpenShut
namespace Go.Proofs.Ytpjlamnjiilgbaa
open Go.RowKit
set_option linter.unusedVariables false

theorem below_dn {B : Nat} {a w : World} (h : Below B a w) (n : Nat) : Below B a (w.drewN n) := ⟨h.os, h.tape, h.output, h.size, h.block⟩
/-- What eqIntS leaves, for the laws' walks. -/
def SameRet (w : World) (b : Bool) (e : Ending) (w' : World) : Prop := e = .returned (.bool b) ∧ Below w.heap.size w w' ∧ w'.heap.size = w.heap.size
theorem eqIntS_law (w : World) (v1 v2 : Value) (zs : List Int) (h1 : ReadI w.heap.size w v1 zs) (h2 : ReadI w.heap.size w v2 zs) :
    Calls Try.prog 9 #[v1, v2] w (SameRet w true) :=
  (eqIntS_same w w.heap.size v1 v2 zs h1 h2).mono fun e w' ⟨he, n, hw⟩ => ⟨he, by rw [hw]; exact below_dn (Below.refl _ _) n, by rw [hw]; rfl⟩
theorem wf_i64 {n : Int} (h : (Lit.int .i64 n).wf = true) : -9223372036854775808 ≤ n ∧ n ≤ 9223372036854775807 := bounds_i64 h
theorem row_len {k : IntKind} {w : World} {a : Option Addr} {len cap : Nat} {zs : List Int} (h : IsRow k w a len cap zs) : len ≤ 9223372036854775807 := by
  rcases h with ⟨_, h0, _, _⟩ | ⟨x, rfl, hlc, hcm, _⟩
  · omega
  · unfold maxLen at hcm; omega
/-- A slice of ints that came in can be read. -/
theorem readI_row {w : World} {a : Option Addr} {len cap : Nat} {zs : List Int} (h : IsRow .i64 w a len cap zs) (hl : len ≤ 1048576) :
    ReadI w.heap.size w (.slice a len cap) (zs.take len) ∧ InR (zs.take len) ∧ (zs.take len).length = len := by
  rcases h with ⟨rfl, rfl, rfl, rfl⟩ | ⟨x, rfl, hlc, hcm, hz, hcell, hwf⟩
  · exact ⟨⟨by simp, none, 0, rfl, ⟨fun _ => rfl, Nat.le_refl _⟩, .inl rfl⟩, InR.nil, rfl⟩
  · have htl : (zs.take len).length = len := by rw [List.length_take]; omega
    refine ⟨⟨by omega, some x, cap, by rw [htl], ⟨(fun e => by cases e), by omega⟩, ?_⟩, fun y hy => wf_i64 (hwf y (List.mem_of_mem_take hy)), htl⟩
    rcases Nat.eq_zero_or_pos len with h0 | h0
    · left; subst h0; rfl
    · right
      have c0 := hcell 0 (by omega)
      obtain ⟨b, off, spot⟩ := x
      have hspot : spot = none := by simpa [Addr.add] using World.cell?_spot c0
      subst hspot
      refine ⟨b, off, rfl, ?_, fun i hi => ?_⟩
      · have c0' : w.cell? ⟨b, off, none⟩ = some (.int .i64 (zs.getD 0 0)) := by simpa [Addr.add] using c0
        rcases Nat.lt_or_ge b w.heap.size with h1 | h1
        · exact h1
        · unfold World.cell? at c0'
          rw [show w.heap[(⟨b, off, none⟩ : Addr).block]? = none from Array.getElem?_eq_none h1] at c0'
          cases c0'
      · have ci := hcell i (by omega)
        have hg : (zs.take len).getD i 0 = zs.getD i 0 := by
          rw [List.getD_eq_getElem?_getD, List.getD_eq_getElem?_getD, List.getElem?_take, if_pos (by omega)]
        rw [hg]
        by_cases hi0 : i = 0
        · subst hi0; simpa [Addr.add] using ci
        · simpa [Addr.add, hi0] using ci
end Go.Proofs.Ytpjlamnjiilgbaa
