import Derived.Test.YtfpklgmahbhecaaGreatQA
import Derived.Test.YtfpklgmahbhecaaGreatRA
import Derived.Test.YtfpklgmahbhecaaGreatRows
import Derived.WalkKit
import Derived.ProofKit
namespace Go.Proofs.YtfpklgmahbhecaaGreat
open Go.RowKit
set_option linter.unusedVariables false
theorem codeIn_row {w : World} {a : Option Addr} {len cap : Nat} {zs : List Int} (h : IsRow .u8 w a len cap zs) (hl : len ≤ 1048576) : CodeIn w.heap.size w a len := by
 refine ⟨hl, ?_⟩
 rcases h with ⟨_, h0, _, _⟩ | ⟨x, rfl, hlc, hcm, hz, hcell, hwf⟩
 · exact .inl h0
 · rcases Nat.eq_zero_or_pos len with h0 | h0
   · exact .inl h0
   · have c0 := hcell 0 (by omega)
     obtain ⟨b, off, spot⟩ := x
     have hspot : spot = none := by simpa [Addr.add] using World.cell?_spot c0
     subst hspot
     refine .inr ⟨b, off, rfl, ?_, fun i hi => ?_⟩
     · have c0' : w.cell? ⟨b, off, none⟩ = some (.int .u8 (zs.getD 0 0)) := by simpa [Addr.add] using c0
       rcases Nat.lt_or_ge b w.heap.size with h1 | h1
       · exact h1
       · unfold World.cell? at c0'
         rw [show w.heap[(⟨b, off, none⟩ : Addr).block]? = none from Array.getElem?_eq_none h1] at c0'
         cases c0'
     · have ci := hcell i (by omega)
       have hm : zs.getD i 0 ∈ zs := by
        rw [List.getD_eq_getElem?_getD, List.getElem?_eq_getElem (show i < zs.length by omega)]
        exact List.getElem_mem _
       obtain ⟨c, hc⟩ := byte_of_wf (hwf _ hm)
       rw [hc] at ci
       refine ⟨c, ?_⟩
       by_cases hi0 : i = 0
       · subst hi0; simpa [Addr.add] using ci
       · simpa [Addr.add, hi0] using ci
theorem big_no (w : World) (a : Option Addr) (len cap : Nat) (h : len ≤ 1048576) :
 Calls Tryz.prog 4 #[.slice a len cap] w fun e w' => e = .returned (.bool false) ∧ w = w' := by
 have h2 : decide (1048576 < (len : Int)) = false := by simp; omega
 go_enter Tryz.func4, Tryz.ntmps4
 go_wp2
 go_ret
 exact ⟨rfl, rfl⟩
theorem big_yes (w : World) (a : Option Addr) (len cap : Nat) (h : 1048576 < len) :
 Calls Tryz.prog 4 #[.slice a len cap] w fun e w' => e = .returned (.bool true) ∧ w = w' := by
 have h2 : decide (1048576 < (len : Int)) = true := by simp; omega
 go_enter Tryz.func4, Tryz.ntmps4
 go_wp2
 go_ret
 exact ⟨rfl, rfl⟩
theorem row_cap {k : IntKind} {w : World} {a : Option Addr} {len cap : Nat} {zs : List Int} (h : IsRow k w a len cap zs) : len ≤ cap := by
 rcases h with ⟨_, h0, h1, _⟩ | ⟨x, _, hlc, _⟩
 · omega
 · exact hlc
end Go.Proofs.YtfpklgmahbhecaaGreat
