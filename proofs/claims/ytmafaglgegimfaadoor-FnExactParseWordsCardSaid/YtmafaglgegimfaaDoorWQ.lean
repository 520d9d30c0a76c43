/- Words, the texts: ParseWord of the program. -/
import Derived.Test.YtmafaglgegimfaaDoorWJ
import Derived.Test.YtmafaglgegimfaaDoorWO
import Derived.Test.YtmafaglgegimfaaDoorWN
namespace Go.Proofs.YtmafaglgegimfaaDoor
open Go.RowKit
set_option linter.unusedVariables false

theorem letterOf_any (w : World) (c : UInt8) : Calls Tryd.prog 22 #[.int .u8 (c.toNat : Int)] w fun e w' => e = .returned (.int .i64 (unch c)) ∧ w = w' := by
  have hcb := toNat_lt c
  by_cases c1 : 97 ≤ c.toNat ∧ c.toNat ≤ 99
  · obtain ⟨c1a, c1b⟩ := c1
    have hu := unch_low ⟨c1a, c1b⟩
    have hu2 : (c.toNat : Int) - 97 + 1 = unch c := by rw [hu]; omega
    have c1c : (c.toNat : Int) < 100 := by omega
    obtain ⟨u, huv⟩ : ∃ u, u = unch c := ⟨_, rfl⟩
    rw [← huv] at hu2 ⊢
    replace hu := hidI hu
    replace huv := hidI huv
    go_enter Tryd.func22, Tryd.ntmps22
    go_wp2
    go_ret
    exact ⟨rfl, rfl⟩
  · by_cases c2 : 65 ≤ c.toNat ∧ c.toNat ≤ 67
    · obtain ⟨c2a, c2b⟩ := c2
      have hu := unch_up ⟨c2a, c2b⟩
      have hu2 : -((c.toNat : Int) - 65) - 1 = unch c := by rw [hu]; omega
      have c3 : ¬ 97 ≤ (c.toNat : Int) := by omega
      have c4 : (c.toNat : Int) < 68 := by omega
      have c5 : 65 ≤ (c.toNat : Int) := by omega
      obtain ⟨u, huv⟩ : ∃ u, u = unch c := ⟨_, rfl⟩
      rw [← huv] at hu2 ⊢
      replace hu := hidI hu
      replace huv := hidI huv
      clear c1
      go_enter Tryd.func22, Tryd.ntmps22
      go_wp2
      go_ret
      exact ⟨rfl, rfl⟩
    · rw [unch_no c1 c2]
      by_cases d1 : 97 ≤ (c.toNat : Int)
      · have d2 : decide ((c.toNat : Int) < 100) = false := by simp; omega
        have d3 : 65 ≤ (c.toNat : Int) := by omega
        have d4 : decide ((c.toNat : Int) < 68) = false := by simp; omega
        clear c1 c2
        go_enter Tryd.func22, Tryd.ntmps22
        go_wp2
        go_ret
        exact ⟨rfl, rfl⟩
      · by_cases d3 : 65 ≤ (c.toNat : Int)
        · have d4 : decide ((c.toNat : Int) < 68) = false := by simp; omega
          clear c1 c2
          go_enter Tryd.func22, Tryd.ntmps22
          go_wp2
          go_ret
          exact ⟨rfl, rfl⟩
        · clear c1 c2
          go_enter Tryd.func22, Tryd.ntmps22
          go_wp2
          go_ret
          exact ⟨rfl, rfl⟩
theorem intsBool_nil {w wr : World} {b : Bool} (hb : Below w.heap.size w wr) : IntsBoolRet w [] b (.returned (.tuple #[.slice none 0 0, .bool b])) wr :=
  ⟨_, rfl, ⟨by simp, .inl ⟨rfl, rfl⟩⟩, hb⟩
set_option maxHeartbeats 1600000 in
theorem parse_unit (w : World) (r : Int) (s : ByteArray) (h1 : s.data.toList = [49]) :
    Calls Tryd.prog 14 #[.int .i64 r, .string s] w (IntsBoolRet w (parL r s.data.toList) (parOk r s.data.toList)) := by
  rw [h1, parL_unit, parOk_unit]
  have ht : s.toList = [49] := by rw [ByteArray.toList_eq]; exact h1
  have hz : (s.toList == [49]) = true := by rw [ht]; rfl
  have hsv : s = ⟨#[49]⟩ := by apply ByteArray.ext; rw [← Array.toList_inj]; exact h1
  have hread : ReadI w.heap.size w (.slice none 0 0) [] := ⟨by simp, none, 0, rfl, ⟨fun _ => rfl, Nat.le_refl _⟩, .inl rfl⟩
  have hfmt := format_any w (.slice none 0 0) [] hread (by simp)
  obtain ⟨b, hbv⟩ : ∃ b, b = isW r [] := ⟨_, rfl⟩
  rw [← hbv]
  subst hsv
  replace hread := hidI hread
  replace ht := hidI ht
  replace h1 := hidI h1
  replace hbv := hidI hbv
  go_enter Tryd.func14, Tryd.ntmps14
  go_wp2_with fail
  refine hfmt.mono ?_
  rintro e w1 ⟨rfl, hb1⟩
  have hread1 : ReadI w.heap.size w1 (.slice none 0 0) [] := hread.out.below hb1
  have hcall := isWord_any w1 w.heap.size (.slice none 0 0) [] r hread1
  rw [← hbv.out] at hcall
  replace hread1 := hidI hread1
  clear hfmt
  cases b with
  | true =>
    go_wp2_with fail
    refine hcall.mono ?_
    rintro e w2 ⟨rfl, n, rfl⟩
    have hr := hidI (intsBool_nil (b := true) (below_dN hb1 n))
    clear hcall
    go_wp2
    go_ret2
    exact hr.out
  | false =>
    go_wp2_with fail
    refine hcall.mono ?_
    rintro e w2 ⟨rfl, n, rfl⟩
    have hr := hidI (intsBool_nil (b := false) (below_dN hb1 n))
    clear hcall
    go_wp2
    go_ret2
    exact hr.out
theorem unch_getD {s : ByteArray} {k : Nat} (h : k < s.size) : (s.data.toList.map unch).getD k 0 = unch s[k] := by
  have h2 : k < s.data.toList.length := by simpa using h
  simp only [List.getD_eq_getElem?_getD, List.getElem?_map, List.getElem?_eq_getElem h2]
  rfl
set_option maxHeartbeats 1600000 in
theorem parse_other (w : World) (r : Int) (s : ByteArray) (hs : s.size ≤ 1048576) (h1 : s.data.toList ≠ [49]) :
    Calls Tryd.prog 14 #[.int .i64 r, .string s] w (IntsBoolRet w (parL r s.data.toList) (parOk r s.data.toList)) := by
  have hz : (s.toList == [49]) = false := by rw [beq_eq_false_iff_ne, ByteArray.toList_eq]; exact h1
  obtain ⟨zs, hzs⟩ : ∃ zs, zs = s.data.toList.map unch := ⟨_, rfl⟩
  have hzl : s.size = zs.length := by rw [hzs, List.length_map]; simp
  obtain ⟨i0, hi, hz0, hz1, hz2⟩ := info_parts infoInt
  replace h1 := hidI h1
  replace hzs := hidI hzs
  replace hzl := hidI hzl
  go_enter Tryd.func14, Tryd.ntmps14
  go_wp2_with (at_make; go_must (refine wpList_make_full _ rfl _ _ 31 rfl w.heap.size 3 i0 (.int .i64 0) 1 Tryd.underlying31 hi hz0 hz1 .i64 .i64 _ _ s.size rfl rfl rfl rfl ?c1 ?c2 ?c3 ?_))
  case c1 => rw [hz2]; omega
  case c2 => unfold maxLen; omega
  case c3 => exact Nat.le_refl _
  intro w1 hown hg
  rw [made_ints] at hown
  have hb := (Below.refl w.heap.size w).grown hg (Nat.le_refl _) (by intro k hk; cases hk)
  clear hg hi hz0 hz1 hz2
  replace hown := hidI hown
  go_wp2
  go_loopw [15] (fun i wr => ∃ k : Nat, k ≤ s.size ∧ i = .int .i64 k ∧ Hid (wr.ownsRow w.heap.size 3 1 (.slice (some ⟨w.heap.size, 0, none⟩) s.size s.size) s.size ((padI zs k).map iv)) ∧ Below w.heap.size w wr) (fun i _ => s.size - (intOf i).toNat)
  case atStart => exact ⟨0, Nat.zero_le _, rfl, hidI (by rw [padI_zero, ← hzl.out]; exact hown.out), hb⟩
  case round =>
    clear hown hb
    obtain ⟨k, hk, rfl, hown, hb⟩ := hrel
    by_cases hlt : k < s.size
    · have hlt3 : k < s.size := hlt
      have hlt2 : (k : Int) < (s.size : Int) := by omega
      have hcall := letterOf_any wr s[k]
      have hgd := unch_getD hlt3
      rw [← hzs.out] at hgd
      obtain ⟨z, hz'⟩ : ∃ z, z = unch s[k] := ⟨_, rfl⟩
      rw [← hz'] at hcall hgd
      have hold : ∃ v, wr.cell? ⟨w.heap.size, k, none⟩ = some v := by
        rw [hown.out.cellAt _ (by omega)]
        exact ⟨_, List.getElem?_eq_getElem (by rw [List.length_map, padI_length _ _ (by have := hzl.out; omega)]; have := hzl.out; omega)⟩
      obtain ⟨v, hold⟩ := hold
      have hfr := hown.out.frozenAt k
      have hst := (hown.out.stored k (iv z)).1
      rw [← List.map_set, ← hgd, padI_step zs k (by have := hzl.out; omega), hgd] at hst
      replace hst := hidI hst
      replace hz' := hidI hz'
      replace hgd := hidI hgd
      go_wp2_with fail
      refine hcall.mono ?_
      rintro e w2 ⟨rfl, rfl⟩
      go_wp2
      go_roundw
      case rel => exact ⟨k + 1, by omega, by go_num, hst, hb.setCell (Nat.le_refl _) _⟩
      case measure => simp [intOf]; omega
    · obtain rfl : k = s.size := by omega
      have hrow : RowI wr w.heap.size wr.heap.size (.slice (some ⟨w.heap.size, 0, none⟩) s.size s.size) zs := by
        refine RowI.of_owns ?_ (by have := hzl.out; omega)
        have := hown.out
        rw [hzl.out, padI_full] at this
        rw [← hzl.out] at this ⊢
        exact this
      have hread := hrow.read
      have hfmt := format_any wr _ zs hread (by have := hzl.out; omega)
      obtain ⟨T, hT⟩ : ∃ T : ByteArray, T = ⟨(fmtW zs).toArray⟩ := ⟨_, rfl⟩
      unfold StrRet at hfmt
      rw [← hT] at hfmt
      replace hT := hidI hT
      have hlt2 : ¬ (s.size : Int) < (s.size : Int) := by omega
      replace hrow := hidI hrow
      replace hread := hidI hread
      replace hown := hidI hown
      go_wp2_with fail
      refine hfmt.mono ?_
      rintro e w2 ⟨rfl, hb2⟩
      have hb3 := hb.trans (hb2.mono hb.size)
      have hcall := isWord_any w2 wr.heap.size _ zs r (hread.out.below hb2)
      have hrow2 := hidI ((hrow.out.below hb2 (Nat.le_refl _)).wide (Nat.le_refl _) hb2.size)
      clear hfmt
      have hTl : T.toList = fmtW zs := by rw [hT.out, ByteArray.toList_mk]
      have hsl : s.toList = s.data.toList := ByteArray.toList_eq s
      by_cases hok : s.data.toList = [] ∨ goodB s.data.toList = false
      · have hTs : (T.toList == s.toList) = false := by
          rw [beq_eq_false_iff_ne, hTl, hsl, hzs.out]
          exact fmtW_ne hok
        have hbad : parOk r s.data.toList = false := by
          rcases hok with h | h
          · rw [h]; exact parOk_nil r
          · exact parOk_bad h1.out h
        have hr : IntsBoolRet w (parL r s.data.toList) (parOk r s.data.toList) (.returned (.tuple #[.slice none 0 0, .bool false])) w2 := by
          rw [parL_bad hbad, hbad]
          exact intsBool_nil hb3
        replace hr := hidI hr
        replace hTl := hidI hTl
        replace hsl := hidI hsl
        replace hok := hidI hok
        replace hbad := hidI hbad
        clear hcall
        go_wp2
        go_ret2
        exact hr.out
      · have hg1 : s.data.toList ≠ [] := fun e => hok (.inl e)
        have hg2 : goodB s.data.toList = true := by
          cases h : goodB s.data.toList with
          | true => rfl
          | false => exact absurd (.inr h) hok
        have hTs : (T.toList == s.toList) = true := by
          rw [beq_iff_eq, hTl, hsl, hzs.out]
          exact fmtW_unch hg1 hg2
        have hpo := parOk_word (r := r) h1.out hg1 hg2
        rw [← hzs.out] at hpo
        rw [← hpo] at hcall
        cases hp : parOk r s.data.toList with
        | true =>
          rw [hp] at hcall
          have hr : ∀ n, IntsBoolRet w (parL r s.data.toList) (parOk r s.data.toList) (.returned (.tuple #[.slice (some ⟨w.heap.size, 0, none⟩) s.size s.size, .bool true])) (w2.drewN n) := by
            intro n
            rw [parL_good hp h1.out, hp, ← hzs.out]
            exact ⟨_, rfl, hrow2.out, below_dN hb3 n⟩
          replace hr := hidI hr
          replace hTl := hidI hTl
          replace hsl := hidI hsl
          replace hpo := hidI hpo
          replace hp := hidI hp
          replace hg1 := hidI hg1
          replace hg2 := hidI hg2
          replace hok := hidI hok
          go_wp2_with fail
          refine hcall.mono ?_
          rintro e w3 ⟨rfl, n, rfl⟩
          clear hcall
          go_wp2
          go_ret2
          exact hr.out n
        | false =>
          rw [hp] at hcall
          have hr : ∀ n, IntsBoolRet w (parL r s.data.toList) (parOk r s.data.toList) (.returned (.tuple #[.slice none 0 0, .bool false])) (w2.drewN n) := by
            intro n
            rw [parL_bad hp, hp]
            exact intsBool_nil (below_dN hb3 n)
          replace hr := hidI hr
          replace hTl := hidI hTl
          replace hsl := hidI hsl
          replace hpo := hidI hpo
          replace hp := hidI hp
          replace hg1 := hidI hg1
          replace hg2 := hidI hg2
          replace hok := hidI hok
          go_wp2_with fail
          refine hcall.mono ?_
          rintro e w3 ⟨rfl, n, rfl⟩
          clear hcall
          go_wp2
          go_ret2
          exact hr.out n
theorem parse_any (w : World) (r : Int) (s : ByteArray) (hs : s.size ≤ 1048576) :
    Calls Tryd.prog 14 #[.int .i64 r, .string s] w (IntsBoolRet w (parL r s.data.toList) (parOk r s.data.toList)) := by
  by_cases h1 : s.data.toList = [49]
  · exact parse_unit w r s h1
  · exact parse_other w r s hs h1
end Go.Proofs.YtmafaglgegimfaaDoor
