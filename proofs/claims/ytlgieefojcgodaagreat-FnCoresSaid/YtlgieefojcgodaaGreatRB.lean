import Derived.Test.YtlgieefojcgodaaGreatQA
import Derived.Test.YtlgieefojcgodaaGreatRA
import Derived.Test.YtlgieefojcgodaaGreatRows
import Derived.WalkKit
import Derived.ProofKit
namespace Go.Proofs.YtlgieefojcgodaaGreat
open Go.RowKit
set_option linter.unusedVariables false
theorem codeIn_row {w : World} {a : Option Addr} {len cap : Nat} {zs : List Int} (h : IsRow .u8 w a len cap zs) (hl : len ≤ 1048576) : CodeIn w.heap.size w a len := by
 refine ⟨hl, ?_⟩
 rcases h with ⟨_, h0, _, _⟩ | ⟨x, rfl, hlc, hcm, hz, hcell, hwf⟩
 · exact .inl h0
 · rcases Nat.eq_zero_or_pos len with h0 | h0
   · exact .inl h0
   · have c0 := hcell 0 (by omega)
     obtain ⟨b, off, spot⟩ := x
     have hspot : spot = none := by simpa [Addr.add] using World.cell?_spot c0
     subst hspot
     refine .inr ⟨b, off, rfl, ?_, fun i hi => ?_⟩
     · have c0' : w.cell? ⟨b, off, none⟩ = some (.int .u8 (zs.getD 0 0)) := by simpa [Addr.add] using c0
       rcases Nat.lt_or_ge b w.heap.size with h1 | h1
       · exact h1
       · unfold World.cell? at c0'
         rw [show w.heap[(⟨b, off, none⟩ : Addr).block]? = none from Array.getElem?_eq_none h1] at c0'
         cases c0'
     · have ci := hcell i (by omega)
       have hm : zs.getD i 0 ∈ zs := by
        rw [List.getD_eq_getElem?_getD, List.getElem?_eq_getElem (show i < zs.length by omega)]
        exact List.getElem_mem _
       obtain ⟨c, hc⟩ := byte_of_wf (hwf _ hm)
       rw [hc] at ci
       refine ⟨c, ?_⟩
       by_cases hi0 : i = 0
       · subst hi0; simpa [Addr.add] using ci
       · simpa [Addr.add, hi0] using ci
theorem big_no (w : World) (a : Option Addr) (len cap : Nat) (h : len ≤ 1048576) :
 Calls Tryz.prog 4 #[.slice a len cap] w fun e w' => e = .returned (.bool false) ∧ w = w' := by
 have h2 : decide (1048576 < (len : Int)) = false := by simp; omega
 go_enter Tryz.func4, Tryz.ntmps4
 go_wp2
 go_ret
 exact ⟨rfl, rfl⟩
theorem big_yes (w : World) (a : Option Addr) (len cap : Nat) (h : 1048576 < len) :
 Calls Tryz.prog 4 #[.slice a len cap] w fun e w' => e = .returned (.bool true) ∧ w = w' := by
 have h2 : decide (1048576 < (len : Int)) = true := by simp; omega
 go_enter Tryz.func4, Tryz.ntmps4
 go_wp2
 go_ret
 exact ⟨rfl, rfl⟩
theorem row_cap {k : IntKind} {w : World} {a : Option Addr} {len cap : Nat} {zs : List Int} (h : IsRow k w a len cap zs) : len ≤ cap := by
 rcases h with ⟨_, h0, h1, _⟩ | ⟨x, _, hlc, _⟩
 · omega
 · exact hlc
set_option maxHeartbeats 800000 in
theorem sameInts_same (w : World) (B : Nat) (v1 v2 : Value) (zs : List Int) (h1 : ReadI B w v1 zs) (h2 : ReadI B w v2 zs) :
 Calls Tryz.prog 9 #[v1, v2] w (BoolRet w true) := by
 obtain ⟨hl, a1, cap1, rfl, _, hr1⟩ := h1
 obtain ⟨_, a2, cap2, rfl, _, hr2⟩ := h2
 obtain ⟨n, hn⟩ : ∃ n, n = zs.length := ⟨_, rfl⟩
 rw [← hn] at hl ⊢
 have hcl : ((n : Int) != (n : Int)) = false := by simp
 replace hn := hidI hn
 replace hr1 := hidI hr1
 replace hr2 := hidI hr2
 go_enter Tryz.func9, Tryz.ntmps9
 go_wp2
 go_loopw [5] (fun i wr => ∃ k m : Nat, k ≤ n ∧ i = .int .i64 k ∧ wr = w.drewN m) (fun i _ => n - (intOf i).toNat)
 case atStart => exact ⟨0, 0, Nat.zero_le _, rfl, rfl⟩
 case round =>
  obtain ⟨k, m, hk, rfl, rfl⟩ := hrel
  by_cases hlt : k < n
  · obtain ⟨z, hz⟩ : ∃ z, z = zs.getD k 0 := ⟨_, rfl⟩
    have hnl := hn.out
    have hcell : ∀ a : Option Addr, (zs = [] ∨ ∃ b off, a = some ⟨b, off, none⟩ ∧ b < B ∧ ∀ i, i < zs.length → w.cell? ⟨b, off + i, none⟩ = some (.int .i64 (zs.getD i 0))) → ∃ b off, a = some ⟨b, off, none⟩ ∧ w.cell? ⟨b, off + k, none⟩ = some (.int .i64 z) := by
     intro a h
     rcases h with h0 | ⟨b, off, ha, hB, hc⟩
     · rw [h0] at hnl; simp at hnl; omega
     · exact ⟨b, off, ha, by rw [hz]; exact hc k (by omega)⟩
    obtain ⟨b1, off1, rfl, hc1⟩ := hcell _ hr1.out
    obtain ⟨b2, off2, rfl, hc2⟩ := hcell _ hr2.out
    have hzz : (z != z) = false := by simp
    have hlt2 : (k : Int) < (n : Int) := by omega
    clear hcell
    replace hz := hidI hz
    replace hnl := hidI hnl
    go_wp2
    go_quiet (fail)
    go_wp2
    go_roundw
    case rel => exact ⟨k + 1, _, by omega, by go_num, rfl⟩
    case measure => simp [intOf]; omega
  · go_wp2
    go_ret
    exact ⟨rfl, _, rfl⟩
theorem sameInts_law (w : World) (v1 v2 : Value) (zs : List Int) (h1 : ReadI w.heap.size w v1 zs) (h2 : ReadI w.heap.size w v2 zs) :
 Calls Tryz.prog 9 #[v1, v2] w (SameRet w true) :=
 (sameInts_same w w.heap.size v1 v2 zs h1 h2).mono fun e w' ⟨he, n, hw⟩ => ⟨he, by rw [hw]; exact below_dn (Below.refl _ _) n, by rw [hw]; rfl⟩
end Go.Proofs.YtlgieefojcgodaaGreat
