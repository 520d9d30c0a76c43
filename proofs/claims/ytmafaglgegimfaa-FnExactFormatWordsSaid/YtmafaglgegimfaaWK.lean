/- Words, the texts: FormatWord of the model. -/
import Derived.Test.YtmafaglgegimfaaWKc
import Derived.Test.YtmafaglgegimfaaMF
import Derived.Test.YtmafaglgegimfaaWS1
import Derived.Test.YtmafaglgegimfaaA
import Derived.Laws.Concat
namespace Go.Proofs.Ytmafaglgegimfaa
open Go.RowKit
set_option linter.unusedVariables false

set_option maxHeartbeats 1600000 in
theorem specFmt (w : World) (v : Value) (zs : List Int) (h : ReadI w.heap.size w v zs) (hl : zs.length ≤ 100000000) :
    Calls Try.prog 72 #[v] w (StrRet w (fmtW zs)) := by
  have hread := h
  obtain ⟨_, a, cap, rfl, hq1, hq2⟩ := h
  clear hq1 hq2
  obtain ⟨n, hn⟩ : ∃ n, n = zs.length := ⟨_, rfl⟩
  rw [← hn] at hl hread ⊢
  replace hn := hidI hn
  replace hread := hidI hread
  go_enter Try.func72, Try.ntmps72
  go_wp2
  go_loopw [3, 4] (fun s i wr => ∃ k : Nat, k ≤ n ∧ i = .int .i64 k ∧ s = .string ⟨((zs.take k).map chr).toArray⟩ ∧ Hid (∀ i, i < k → lettB (zs.getD i 0) = true) ∧ Below w.heap.size w wr) (fun _ i _ => n - (intOf i).toNat)
  case atStart => exact ⟨0, Nat.zero_le _, rfl, rfl, hidI (fun i h => by omega), Below.refl _ _⟩
  case round =>
    obtain ⟨k, hk, rfl, rfl, hall, hb⟩ := hrel
    by_cases hlt : k < n
    · obtain ⟨b, off, rfl, hB, hcell⟩ := (hread.out.below hb).at_ k (by have := hn.out; omega)
      obtain ⟨x, hx⟩ : ∃ x, x = zs.getD k 0 := ⟨_, rfl⟩
      have hstep := map_chr_take (zs := zs) (k := k) (by have := hn.out; omega)
      rw [← hx] at hcell hstep
      have hlt2 : (k : Int) < (n : Int) := by omega
      cases hl : lettB x with
      | false =>
        have hbad := hidI (fmtW_bad (zs := zs) (i := k) (by have := hn.out; omega) (by rw [← hx]; exact hl))
        replace hx := hidI hx
        have hcall := l2Letter_no wr x hl
        replace hl := hidI hl
        replace hstep := hidI hstep
        go_wp2_with fail
        refine hcall.mono ?_
        rintro e w1 ⟨rfl, rfl⟩
        go_wp2
        go_ret
        exact ⟨ret_s (by rw [hbad.out]), hb⟩
      | true =>
        have hnext : ∀ i, i < k + 1 → lettB (zs.getD i 0) = true := by
          intro i hi
          by_cases e : i = k
          · subst e; rw [← hx]; exact hl
          · exact hall.out i (by omega)
        replace hnext := hidI hnext
        replace hx := hidI hx
        have hcall := l2Letter_yes wr x hl
        have hcall2 := l2Char_any wr x hl
        obtain ⟨S, hS⟩ : ∃ S : ByteArray, S = ⟨((zs.take k).map chr).toArray⟩ := ⟨_, rfl⟩
        obtain ⟨C, hC⟩ : ∃ C : ByteArray, C = ⟨#[chr x]⟩ := ⟨_, rfl⟩
        unfold CharRet at hcall2
        rw [← hC] at hcall2
        rw [← hS]
        have hSC : S.size + C.size ≤ 9223372036854775807 := by
          rw [hS, hC]
          show ((zs.take k).map chr).toArray.size + 1 ≤ _
          rw [List.size_toArray, List.length_map, List.length_take]
          omega
        have hcat : S ++ C = ⟨((zs.take (k + 1)).map chr).toArray⟩ := by
          rw [hS, hC, hstep]
          apply ByteArray.ext
          simp
        replace hcat := hidI hcat
        replace hl := hidI hl
        replace hstep := hidI hstep
        replace hS := hidI hS
        replace hC := hidI hC
        go_wp2_with fail
        refine hcall.mono ?_
        rintro e w1 ⟨rfl, rfl⟩
        go_wp2_with fail
        refine hcall2.mono ?_
        rintro e w1 ⟨rfl, hb1⟩
        have hb2 := hb.trans (hb1.mono hb.size)
        clear hb1 hcall2
        go_wp2
        go_roundw
        case rel => exact ⟨k + 1, by omega, by go_num, by rw [hcat.out], hnext, hb2⟩
        case measure => simp [intOf]; omega
    · obtain rfl : k = n := by omega
      have htk : zs.take k = zs := List.take_of_length_le (by have := hn.out; omega)
      rw [htk]
      by_cases h0 : zs = []
      · subst h0
        have hr : StrRet w (fmtW []) (.returned (.string ⟨#[49]⟩)) wr := ⟨rfl, hb⟩
        replace hr := hidI hr
        replace htk := hidI htk
        simp only [List.map_nil]
        go_wp2
        go_ret
        exact hr.out
      · have hg := fmtW_good h0 (by rw [← hn.out]; exact hall.out)
        obtain ⟨S, hS⟩ : ∃ S : ByteArray, S = ⟨(zs.map chr).toArray⟩ := ⟨_, rfl⟩
        rw [← hS]
        have hr : StrRet w (fmtW zs) (.returned (.string S)) wr := ⟨by rw [hg, hS], hb⟩
        have hne : S.toList.isEmpty = false := by
          rw [hS, ByteArray.toList_mk, List.isEmpty_eq_false_iff]
          intro e
          exact h0 (List.map_eq_nil_iff.1 e)
        replace hr := hidI hr
        replace hg := hidI hg
        replace htk := hidI htk
        replace h0 := hidI h0
        replace hS := hidI hS
        go_wp2
        go_ret
        exact hr.out
end Go.Proofs.Ytmafaglgegimfaa
