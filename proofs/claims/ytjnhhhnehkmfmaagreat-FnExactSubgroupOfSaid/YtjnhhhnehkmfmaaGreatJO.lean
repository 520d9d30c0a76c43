import Derived.Test.YtjnhhhnehkmfmaaGreatJX
import Derived.Test.YtjnhhhnehkmfmaaGreatQA
namespace Go.Proofs.YtjnhhhnehkmfmaaGreat
open Go.RowKit
set_option linter.unusedVariables false
set_option linter.unusedSimpArgs false
def chZ (cs : List Int) (i : Nat) : Int := if i < cs.length ∧ 0 < cs.getD i 0 then cs.getD i 0 else 0
theorem chZ_chN (cs : List Int) (i n : Nat) (h : 0 < n) : Int.tmod (chZ cs i) (n : Int) = (chN cs i n : Int) ∧ 0 ≤ chZ cs i := by
 unfold chZ chN
 split
 · rename_i hh
   have h1 : 0 ≤ cs.getD i 0 % (n : Int) := Int.emod_nonneg _ (by omega)
   rw [Int.tmod_eq_emod_of_nonneg (by omega), Int.toNat_of_nonneg h1]
   exact ⟨rfl, by omega⟩
 · simp
theorem choice_any (w : World) (v : Value) (cs : List Int) (i : Nat) (h : ReadI w.heap.size w v cs) (hl : cs.length ≤ 100000000) (hi : i ≤ 100000000) :
 Calls Tryz.prog 107 #[v, .int .i64 (i : Int)] w fun e w' => e = .returned (.int .i64 (chZ cs i)) ∧ w' = w := by
 have h0 := h
 obtain ⟨_, a, cap, rfl, _, _⟩ := h
 obtain ⟨n, hn⟩ := exq cs.length
 rw [← hn] at hl
 obtain ⟨Z, hZ⟩ := exq (chZ cs i)
 rw [← hZ]
 by_cases hlt : i < n
 · have hni : ¬ (n : Int) ≤ (i : Int) := by omega
   have hii : (i : Int) < (n : Int) := by omega
   obtain ⟨b, off, rfl, hB, hc⟩ := h0.at2 i (by omega)
   obtain ⟨c, hcc⟩ := exq (cs.getD i 0)
   rw [← hcc] at hc
   rw [← hn]
   by_cases hpos : 0 < c
   · have hZc : Z = c := by rw [hZ]; unfold chZ; rw [if_pos ⟨by omega, by omega⟩]; exact hcc.symm
     subst hZc
     have hmx : max Z 0 = Z := by omega
     have hnc : ¬ Z ≤ 0 := by omega
     have hnl : ¬ Z < 0 := by omega
     replace h0 := hidI h0
     replace hn := hidI hn
     replace hcc := hidI hcc
     replace hZ := hidI hZ
     go_enter Tryz.func107, Tryz.ntmps107
     go_wp2
     all_goals first | (exfalso; omega) | skip
     go_ret
     exact ⟨rfl, rfl⟩
   · have hZc : Z = 0 := by rw [hZ]; unfold chZ; rw [if_neg (fun h => hpos (by omega))]
     subst hZc
     rcases Int.lt_or_eq_of_le (show c ≤ 0 by omega) with hneg | hz0
     · have hmx : max c 0 = 0 := by omega
       replace h0 := hidI h0
       replace hn := hidI hn
       replace hcc := hidI hcc
       replace hZ := hidI hZ
       replace hpos := hidI hpos
       go_enter Tryz.func107, Tryz.ntmps107
       go_wp2
       all_goals first | (exfalso; omega) | skip
       go_ret
       exact ⟨rfl, rfl⟩
     · subst hz0
       have hmx : max (0 : Int) 0 = 0 := by omega
       replace h0 := hidI h0
       replace hn := hidI hn
       replace hcc := hidI hcc
       replace hZ := hidI hZ
       replace hpos := hidI hpos
       go_enter Tryz.func107, Tryz.ntmps107
       go_wp2
       all_goals first | (exfalso; omega) | skip
       go_ret
       exact ⟨rfl, rfl⟩
 · have hni : (n : Int) ≤ (i : Int) := by omega
   have hZc : Z = 0 := by rw [hZ]; unfold chZ; rw [if_neg (fun h => hlt (by omega))]
   subst hZc
   rw [← hn]
   replace h0 := hidI h0
   replace hn := hidI hn
   replace hZ := hidI hZ
   go_enter Tryz.func107, Tryz.ntmps107
   go_wp2
   all_goals first | (exfalso; omega) | skip
   go_ret
   exact ⟨rfl, rfl⟩
end Go.Proofs.YtjnhhhnehkmfmaaGreat
