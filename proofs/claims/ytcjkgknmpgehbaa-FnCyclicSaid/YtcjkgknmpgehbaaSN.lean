/- Small helpers of the laws over a drawn code: sameInts, parts of the code. -/
import Derived.Test.YtcjkgknmpgehbaaBG
import Derived.Test.YtcjkgknmpgehbaaLW
import Derived.Test.YtcjkgknmpgehbaaIC
namespace Go.Proofs.Ytcjkgknmpgehbaa
open Go.RowKit
set_option linter.unusedVariables false

theorem codeIn_mono {B B' : Nat} {w : World} {a : Option Addr} {len : Nat} (h : CodeIn B w a len) (hB : B ≤ B') : CodeIn B' w a len :=
  ⟨h.1, h.2.imp id (fun ⟨b, off, ha, hb, hc⟩ => ⟨b, off, ha, by omega, hc⟩)⟩
theorem row_cap {k : IntKind} {w : World} {a : Option Addr} {len cap : Nat} {zs : List Int} (h : IsRow k w a len cap zs) : len ≤ cap := by
  rcases h with ⟨_, h0, h1, _⟩ | ⟨x, _, hlc, _⟩
  · omega
  · exact hlc
theorem codeIn_part {B : Nat} {w : World} {a : Option Addr} {len q : Nat} (h : CodeIn B w a len) (hq : q ≤ len) : CodeIn B w a q := by
  refine ⟨by have := h.1; omega, ?_⟩
  rcases h.2 with h0 | ⟨b, off, ha, hb, hc⟩
  · left; omega
  · exact .inr ⟨b, off, ha, hb, fun i hi => hc i (by omega)⟩
set_option maxHeartbeats 800000 in
theorem sameInts_same (w : World) (B : Nat) (v1 v2 : Value) (zs : List Int) (h1 : ReadI B w v1 zs) (h2 : ReadI B w v2 zs) :
    Calls Try.prog 18 #[v1, v2] w (BoolRet w true) := by
  obtain ⟨hl, a1, cap1, rfl, _, hr1⟩ := h1
  obtain ⟨_, a2, cap2, rfl, _, hr2⟩ := h2
  obtain ⟨n, hn⟩ : ∃ n, n = zs.length := ⟨_, rfl⟩
  rw [← hn] at hl ⊢
  have hcl : ((n : Int) != (n : Int)) = false := by simp
  replace hn := hidI hn
  replace hr1 := hidI hr1
  replace hr2 := hidI hr2
  go_enter Try.func18, Try.ntmps18
  go_wp2
  go_loopw [5] (fun i wr => ∃ k m : Nat, k ≤ n ∧ i = .int .i64 k ∧ wr = w.drewN m) (fun i _ => n - (intOf i).toNat)
  case atStart => exact ⟨0, 0, Nat.zero_le _, rfl, rfl⟩
  case round =>
    obtain ⟨k, m, hk, rfl, rfl⟩ := hrel
    by_cases hlt : k < n
    · obtain ⟨z, hz⟩ : ∃ z, z = zs.getD k 0 := ⟨_, rfl⟩
      have hnl := hn.out
      have hcell : ∀ a : Option Addr, (zs = [] ∨ ∃ b off, a = some ⟨b, off, none⟩ ∧ b < B ∧ ∀ i, i < zs.length → w.cell? ⟨b, off + i, none⟩ = some (.int .i64 (zs.getD i 0))) → ∃ b off, a = some ⟨b, off, none⟩ ∧ w.cell? ⟨b, off + k, none⟩ = some (.int .i64 z) := by
        intro a h
        rcases h with h0 | ⟨b, off, ha, hB, hc⟩
        · rw [h0] at hnl; simp at hnl; omega
        · exact ⟨b, off, ha, by rw [hz]; exact hc k (by omega)⟩
      obtain ⟨b1, off1, rfl, hc1⟩ := hcell _ hr1.out
      obtain ⟨b2, off2, rfl, hc2⟩ := hcell _ hr2.out
      have hzz : (z != z) = false := by simp
      have hlt2 : (k : Int) < (n : Int) := by omega
      clear hcell
      replace hz := hidI hz
      replace hnl := hidI hnl
      go_wp2
      go_quiet (fail)
      go_wp2
      go_roundw
      case rel => exact ⟨k + 1, _, by omega, by go_num, rfl⟩
      case measure => simp [intOf]; omega
    · go_wp2
      go_ret
      exact ⟨rfl, _, rfl⟩
theorem sameInts_law (w : World) (v1 v2 : Value) (zs : List Int) (h1 : ReadI w.heap.size w v1 zs) (h2 : ReadI w.heap.size w v2 zs) :
    Calls Try.prog 18 #[v1, v2] w (SameRet w true) :=
  (sameInts_same w w.heap.size v1 v2 zs h1 h2).mono fun e w' ⟨he, n, hw⟩ => ⟨he, by rw [hw]; exact below_dn (Below.refl _ _) n, by rw [hw]; rfl⟩
end Go.Proofs.Ytcjkgknmpgehbaa
