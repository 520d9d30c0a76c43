/- Words, the texts: FormatWord of the program. -/
import Derived.Test.YtmafaglgegimfaaDoorWKc
import Derived.Test.YtmafaglgegimfaaDoorWJl
import Derived.Test.YtmafaglgegimfaaDoorS
import Derived.Laws.MakeOwn
namespace Go.Proofs.YtmafaglgegimfaaDoor
open Go.RowKit
set_option linter.unusedVariables false

theorem name_yes (w : World) (x : Int) (h : lettB x = true) :
    Calls Tryd.prog 32 #[.int .i64 x] w fun e w' => e = .returned (.tuple #[.int .u8 ((chr x).toNat : Int), .bool true]) ∧ w = w' := by
  obtain ⟨h0, h1, h2⟩ := lettB_iff.1 h
  have hcall := isLetter_yes w 3 x (by omega) (by omega) h0 h1 h2
  have hx : x = -3 ∨ x = -2 ∨ x = -1 ∨ x = 1 ∨ x = 2 ∨ x = 3 := by omega
  clear h h0 h1 h2
  rcases hx with rfl | rfl | rfl | rfl | rfl | rfl
  all_goals
    go_enter Tryd.func32, Tryd.ntmps32
    go_wp2_with fail
    refine hcall.mono ?_
    rintro e w' ⟨rfl, rfl⟩
    go_wp2
    go_ret2
    exact ⟨rfl, rfl⟩
theorem name_no (w : World) (x : Int) (h : lettB x = false) :
    Calls Tryd.prog 32 #[.int .i64 x] w fun e w' => e = .returned (.tuple #[.int .u8 0, .bool false]) ∧ w = w' := by
  have hcall := isLetter_no w 3 x (by omega) (by omega) (lettB_no.1 h)
  replace h := hidI h
  go_enter Tryd.func32, Tryd.ntmps32
  go_wp2_with fail
  refine hcall.mono ?_
  rintro e w' ⟨rfl, rfl⟩
  go_wp2
  go_ret2
  exact ⟨rfl, rfl⟩
set_option maxHeartbeats 1600000 in
theorem format_any (w : World) (v : Value) (zs : List Int) (h : ReadI w.heap.size w v zs) (hl : zs.length ≤ 100000000) :
    Calls Tryd.prog 23 #[v] w (StrRet w (fmtW zs)) := by
  have hread := h
  obtain ⟨_, a, cap, rfl, hq1, hq2⟩ := h
  clear hq1 hq2
  obtain ⟨n, hn⟩ : ∃ n, n = zs.length := ⟨_, rfl⟩
  rw [← hn] at hl hread ⊢
  by_cases h0 : zs = []
  · have hr : StrRet w (fmtW zs) (.returned (.string ⟨#[49]⟩)) w := ⟨by rw [h0]; rfl, Below.refl _ _⟩
    have hn0 : n = 0 := by rw [hn, h0]; rfl
    subst hn0
    replace h0 := hidI h0
    replace hr := hidI hr
    replace hn := hidI hn
    replace hread := hidI hread
    go_enter Tryd.func23, Tryd.ntmps23
    go_wp2
    go_ret
    exact hr.out
  · have hn0 : ((n : Int) == 0) = false := by
      rw [beq_eq_false_iff_ne]
      intro e
      exact h0 (List.length_eq_zero_iff.1 (by omega))
    obtain ⟨i0, hi, hz0, hz1, hz2⟩ := info_parts info8
    replace h0 := hidI h0
    replace hn := hidI hn
    replace hread := hidI hread
    go_enter Tryd.func23, Tryd.ntmps23
    go_wp2_with (at_make; refine wpList_make_own _ rfl _ _ 48 rfl w.heap.size 5 i0 (.int .u8 0) 1 Tryd.underlying48 hi hz0 hz1 .i64 .i64 _ n rfl rfl ?c2 ?c3 ?c4 ?c5 ?_)
    case c2 => omega
    case c3 => rw [hz2]; omega
    case c4 => unfold maxLen; omega
    case c5 => exact Nat.le_refl _
    intro w1 hown0 hg
    have hb0 := (Below.refl w.heap.size w).grown hg (Nat.le_refl _) (by intro k hk; cases hk)
    clear hg hi hz0 hz1 hz2
    have hown1 : OwnsB w1 w.heap.size (.slice (some ⟨w.heap.size, 0, none⟩) 0 n) [] := hown0
    replace hown1 := hidI hown1
    clear hown0
    go_wp2
    go_loopw [3, 16] (fun s i wr => ∃ k : Nat, k ≤ n ∧ i = .int .i64 k ∧ Hid (OwnsB wr w.heap.size s ((zs.take k).map chr)) ∧ Hid (∀ i, i < k → lettB (zs.getD i 0) = true) ∧ Below w.heap.size w wr) (fun _ i _ => n - (intOf i).toNat)
    case atStart => exact ⟨0, Nat.zero_le _, rfl, hown1, hidI (fun i h => by omega), hb0⟩
    case round =>
      clear hown1 hb0
      obtain ⟨k, hk, rfl, hown, hall, hb⟩ := hrel
      by_cases hlt : k < n
      · obtain ⟨b, off, rfl, hB, hcell⟩ := (hread.out.below hb).at_ k (by have := hn.out; omega)
        obtain ⟨x, hx⟩ : ∃ x, x = zs.getD k 0 := ⟨_, rfl⟩
        have hstep := map_chr_take (zs := zs) (k := k) (by have := hn.out; omega)
        rw [← hx] at hcell hstep
        have hlt2 : (k : Int) < (n : Int) := by omega
        cases hl : lettB x with
        | false =>
          have hbad := hidI (fmtW_bad (zs := zs) (i := k) (by have := hn.out; omega) (by rw [← hx]; exact hl))
          replace hx := hidI hx
          have hcall := name_no wr x hl
          replace hl := hidI hl
          replace hstep := hidI hstep
          go_wp2_with fail
          refine hcall.mono ?_
          rintro e w1 ⟨rfl, rfl⟩
          go_wp2
          go_ret
          exact ⟨ret_s (by rw [hbad.out]), hb⟩
        | true =>
          have hnext : ∀ i, i < k + 1 → lettB (zs.getD i 0) = true := by
            intro i hi
            by_cases e : i = k
            · subst e; rw [← hx]; exact hl
            · exact hall.out i (by omega)
          replace hnext := hidI hnext
          replace hx := hidI hx
          have hcall := name_yes wr x hl
          obtain ⟨c, hc⟩ : ∃ c, c = chr x := ⟨_, rfl⟩
          rw [← hc] at hcall hstep
          obtain ⟨L, hL⟩ : ∃ L, L = (zs.take k).map chr := ⟨_, rfl⟩
          have hLl : L.length ≤ 1000000000 := by rw [hL, List.length_map, List.length_take]; omega
          rw [← hL] at hstep hown
          replace hl := hidI hl
          replace hstep := hidI hstep
          replace hc := hidI hc
          replace hL := hidI hL
          go_wp2_with fail
          refine hcall.mono ?_
          rintro e w1 ⟨rfl, rfl⟩
          go_wp2_with (at_builtin; go_must (refine wpList_push rfl _ _ rfl w.heap.size _ L c _ rfl rfl rfl (by exact hown.out) hLl hb.size ?_))
          intro v' w' hown' hb'
          have hown2 : Hid (OwnsB w' w.heap.size v' ((zs.take (k + 1)).map chr)) := hidI (by rw [hstep.out]; exact hown')
          have hb2 := hb.trans hb'
          clear hown' hb' hown hb hcall
          go_wp2
          go_roundw
          case rel => exact ⟨k + 1, by omega, by go_num, hown2, hnext, hb2⟩
          case measure => simp [intOf]; omega
      · obtain rfl : k = n := by omega
        have htk : zs.take k = zs := List.take_of_length_le (by have := hn.out; omega)
        rw [htk] at hown
        have hg := fmtW_good h0.out (by rw [← hn.out]; exact hall.out)
        have hcv := hown.out.conv
        have hr : StrRet w (fmtW zs) (.returned (.string ⟨(zs.map chr).toArray⟩)) wr := ⟨by rw [hg], hb⟩
        obtain ⟨S, hS⟩ : ∃ S : ByteArray, S = ⟨(zs.map chr).toArray⟩ := ⟨_, rfl⟩
        rw [← hS] at hcv hr
        replace hg := hidI hg
        replace htk := hidI htk
        replace hS := hidI hS
        replace hr := hidI hr
        go_wp2
        go_ret
        exact hr.out
end Go.Proofs.YtmafaglgegimfaaDoor
