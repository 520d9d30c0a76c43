/- ParseInt, spec. -/
import Derived.Test.YtkmhncbakfnfeaaDoorFmtI
namespace Go.Proofs.YtkmhncbakfnfeaaDoor
open Go.RowKit
set_option linter.unusedVariables false

set_option maxHeartbeats 1600000 in
set_option maxRecDepth 100000 in
theorem specPar (s : ByteArray) (w : World) (hs : s.size ≤ 1048576) :
    Calls Tryd.prog 45 #[.string s] w fun e w' => e = .returned (.tuple #[.int .i64 (parseI s.data.toList).1, .bool (parseI s.data.toList).2]) ∧ Below w.heap.size w w' := by
  obtain ⟨L, hL⟩ : ∃ L, L = s.data.toList := ⟨_, rfl⟩
  have hlen : L.length = s.size := by rw [hL]; rfl
  rw [← hL]
  obtain ⟨r, hr⟩ : ∃ r, r = parseI L := ⟨_, rfl⟩
  rw [← hr]
  replace hL := hid hL
  replace hr := hid hr
  replace hlen := hid hlen
  go_enter Tryd.func45, Tryd.ntmps45
  go_wp2
  go_loop [4, 5, 6] (fun n k i => ∃ j : Nat, j ≤ s.size ∧ j ≤ 11 ∧ i = .int .i64 j ∧ n = .int .i64 (pv (L.take j)) ∧ k = .int .i64 (pk (L.take j))) (fun _ _ i => 11 - (intOf i).toNat)
  case atStart => exact ⟨0, Nat.zero_le _, Nat.zero_le _, rfl, rfl, rfl⟩
  case round =>
    obtain ⟨j, hj1, hj2, rfl, rfl, rfl⟩ := hrel
    by_cases hgo : j < s.size ∧ j < 11
    · obtain ⟨hg1, hg2⟩ := hgo
      have hjL : j < L.length := by rw [hlen.out]; exact hg1
      have e1 : L[j] = s[j] := by have h := hL.out; subst h; rfl
      have htk : L.take (j + 1) = L.take j ++ [s[j]] := by rw [List.take_succ_eq_append_getElem hjL, e1]
      have hpb := pv_small (l := L.take j) (by rw [List.length_take]; omega)
      have hkb := pk_le (L.take j)
      have hkl : (L.take j).length ≤ 11 := by rw [List.length_take]; omega
      have hkb2 : pk (L.take j) ≤ 11 := by omega
      have hc := toNat_lt s[j]
      clear hkb hkl
      by_cases hd : 48 ≤ s[j].toNat ∧ s[j].toNat ≤ 57
      · obtain ⟨hd1, hd2⟩ := hd
        have hn : ((pv (L.take (j + 1)) : Nat) : Int) = (pv (L.take j) : Int) * 10 + ((s[j].toNat : Int) - 48) := by
          rw [htk, pv_snoc, pstep_dig (isD_yes hd1 hd2)]
          omega
        have hk : ((pk (L.take (j + 1)) : Nat) : Int) = (pk (L.take j) : Int) + 1 := by
          rw [htk, pk_snoc, if_pos (isD_yes hd1 hd2)]
          omega
        clear e1 htk hjL
        replace hn := hid hn
        replace hk := hid hk
        go_wp2
        go_round
        case rel => exact ⟨j + 1, by omega, by omega, by go_num, by rw [hn.out], by rw [hk.out]⟩
        case measure => simp [intOf]; omega
      · have hno : isD s[j] = false := isD_no (by omega)
        have hn : pv (L.take (j + 1)) = pv (L.take j) := by rw [htk, pv_snoc, pstep_not hno]
        have hk : pk (L.take (j + 1)) = pk (L.take j) := by rw [htk, pk_snoc, hno]; rfl
        clear e1 htk hjL
        replace hn := hid hn
        replace hk := hid hk
        by_cases hd1 : 48 ≤ s[j].toNat
        · have hd2 : decide ((s[j].toNat : Int) ≤ 57) = false := by simp; omega
          clear hd
          go_wp2
          go_round
          case rel => exact ⟨j + 1, by omega, by omega, by go_num, by rw [hn.out], by rw [hk.out]⟩
          case measure => simp [intOf]; omega
        · clear hd
          go_wp2
          go_round
          case rel => exact ⟨j + 1, by omega, by omega, by go_num, by rw [hn.out], by rw [hk.out]⟩
          case measure => simp [intOf]; omega
    · have htk : L.take j = L.take 11 := by
        by_cases h : s.size ≤ 11
        · rw [List.take_of_length_le (by rw [hlen.out]; omega), List.take_of_length_le (by rw [hlen.out]; omega)]
        · rw [show j = 11 by omega]
      rw [htk]
      obtain ⟨n, hn⟩ : ∃ n : Nat, n = pv (L.take 11) := ⟨_, rfl⟩
      obtain ⟨k, hk⟩ : ∃ k : Nat, k = pk (L.take 11) := ⟨_, rfl⟩
      have hnb := pv_small (l := L.take 11) (by rw [List.length_take]; omega)
      have hkb := pk_le (L.take 11)
      have hkb2 : (L.take 11).length ≤ 11 := by rw [List.length_take]; omega
      rw [← hn] at hnb ⊢
      rw [← hk] at hkb ⊢
      have hk11 : k ≤ 11 := by omega
      clear hkb hkb2 htk
      have hhd : ∀ h : 0 < s.size, L.head? = some s[0] := by
        intro h
        have h2 := hL.out
        subst h2
        rw [List.head?_eq_getElem?, Array.getElem?_toList]
        exact Array.getElem?_eq_getElem h
      by_cases hsz : j < s.size
      · have hj11 : ¬ j < 11 := by omega
        have hpos : 0 < s.size := by omega
        clear hgo
        by_cases hm : s[0].toNat = 45
        · have hm45 : L.head? = some 45 := by rw [hhd hpos, show s[0] = 45 from UInt8.toNat.inj hm]
          have hmb : ((s[0].toNat : Int) == 45) = true := by rw [hm]; rfl
          clear hhd
          replace hm := hid hm
          by_cases hk9 : 9 < k
          · have hf := parseI_many (l := L) (by rw [← hk]; omega)
            rw [← hr.out] at hf
            replace hf := hid hf
            replace hn := hid hn
            replace hk := hid hk
            go_wp2
            all_goals (go_ret2; exact ⟨ret_ib (by rw [hf.out]) (by rw [hf.out]), Below.refl _ _⟩)
          · by_cases hl10 : 10 < s.size
            · have hf := parseI_long (l := L) (by rw [hlen.out]; omega)
              rw [← hr.out] at hf
              replace hf := hid hf
              replace hn := hid hn
              replace hk := hid hk
              go_wp2
              all_goals (go_ret2; exact ⟨ret_ib (by rw [hf.out]) (by rw [hf.out]), Below.refl _ _⟩)
            · have hcm := fmtB_cmp hL.out (-(n : Int))
              have hpn : pnum L = -(n : Int) := by
                unfold pnum
                rw [if_pos hm45, ← hn]
              by_cases he : Lib.itoa (-(n : Int)) = L
              · rw [decide_eq_true he] at hcm
                have hf := parseI_yes (l := L) (by rw [← hk]; omega) (by rw [hlen.out]; omega) (by rw [hpn]; exact he)
                rw [← hr.out, hpn] at hf
                replace hf := hid hf
                replace hn := hid hn
                replace hk := hid hk
                replace he := hid he
                replace hpn := hid hpn
                go_wp2_with (go_at_call 16; refine (specFmt (-(n : Int)) (by omega) (by omega) _).mono ?_; rintro e w' ⟨rfl, hb'⟩)
                all_goals (go_ret2; exact ⟨ret_ib (by rw [hf.out]) (by rw [hf.out]), hb'⟩)
              · rw [decide_eq_false he] at hcm
                have hf := parseI_other (l := L) (by rw [hpn]; exact he)
                rw [← hr.out] at hf
                replace hf := hid hf
                replace hn := hid hn
                replace hk := hid hk
                replace he := hid he
                replace hpn := hid hpn
                go_wp2_with (go_at_call 16; refine (specFmt (-(n : Int)) (by omega) (by omega) _).mono ?_; rintro e w' ⟨rfl, hb'⟩)
                all_goals (go_ret2; exact ⟨ret_ib (by rw [hf.out]) (by rw [hf.out]), hb'⟩)
        · have hm45 : ¬ L.head? = some 45 := by
            rw [hhd hpos]
            intro h
            exact hm (by rw [Option.some.inj h]; rfl)
          have hmb : ((s[0].toNat : Int) == 45) = false := by rw [beq_eq_false_iff_ne]; omega
          clear hhd
          replace hm := hid hm
          by_cases hk9 : 9 < k
          · have hf := parseI_many (l := L) (by rw [← hk]; omega)
            rw [← hr.out] at hf
            replace hf := hid hf
            replace hn := hid hn
            replace hk := hid hk
            go_wp2
            all_goals (go_ret2; exact ⟨ret_ib (by rw [hf.out]) (by rw [hf.out]), Below.refl _ _⟩)
          · by_cases hl10 : 10 < s.size
            · have hf := parseI_long (l := L) (by rw [hlen.out]; omega)
              rw [← hr.out] at hf
              replace hf := hid hf
              replace hn := hid hn
              replace hk := hid hk
              go_wp2
              all_goals (go_ret2; exact ⟨ret_ib (by rw [hf.out]) (by rw [hf.out]), Below.refl _ _⟩)
            · have hcm := fmtB_cmp hL.out ((n : Int))
              have hpn : pnum L = (n : Int) := by
                unfold pnum
                rw [if_neg hm45, ← hn]
              by_cases he : Lib.itoa ((n : Int)) = L
              · rw [decide_eq_true he] at hcm
                have hf := parseI_yes (l := L) (by rw [← hk]; omega) (by rw [hlen.out]; omega) (by rw [hpn]; exact he)
                rw [← hr.out, hpn] at hf
                replace hf := hid hf
                replace hn := hid hn
                replace hk := hid hk
                replace he := hid he
                replace hpn := hid hpn
                go_wp2_with (go_at_call 16; refine (specFmt ((n : Int)) (by omega) (by omega) _).mono ?_; rintro e w' ⟨rfl, hb'⟩)
                all_goals (go_ret2; exact ⟨ret_ib (by rw [hf.out]) (by rw [hf.out]), hb'⟩)
              · rw [decide_eq_false he] at hcm
                have hf := parseI_other (l := L) (by rw [hpn]; exact he)
                rw [← hr.out] at hf
                replace hf := hid hf
                replace hn := hid hn
                replace hk := hid hk
                replace he := hid he
                replace hpn := hid hpn
                go_wp2_with (go_at_call 16; refine (specFmt ((n : Int)) (by omega) (by omega) _).mono ?_; rintro e w' ⟨rfl, hb'⟩)
                all_goals (go_ret2; exact ⟨ret_ib (by rw [hf.out]) (by rw [hf.out]), hb'⟩)
      · clear hgo
        by_cases hpos : 0 < s.size
        · by_cases hm : s[0].toNat = 45
          · have hm45 : L.head? = some 45 := by rw [hhd hpos, show s[0] = 45 from UInt8.toNat.inj hm]
            have hmb : ((s[0].toNat : Int) == 45) = true := by rw [hm]; rfl
            clear hhd
            replace hm := hid hm
            by_cases hk9 : 9 < k
            · have hf := parseI_many (l := L) (by rw [← hk]; omega)
              rw [← hr.out] at hf
              replace hf := hid hf
              replace hn := hid hn
              replace hk := hid hk
              go_wp2
              all_goals (go_ret2; exact ⟨ret_ib (by rw [hf.out]) (by rw [hf.out]), Below.refl _ _⟩)
            · by_cases hl10 : 10 < s.size
              · have hf := parseI_long (l := L) (by rw [hlen.out]; omega)
                rw [← hr.out] at hf
                replace hf := hid hf
                replace hn := hid hn
                replace hk := hid hk
                go_wp2
                all_goals (go_ret2; exact ⟨ret_ib (by rw [hf.out]) (by rw [hf.out]), Below.refl _ _⟩)
              · have hcm := fmtB_cmp hL.out (-(n : Int))
                have hpn : pnum L = -(n : Int) := by
                  unfold pnum
                  rw [if_pos hm45, ← hn]
                by_cases he : Lib.itoa (-(n : Int)) = L
                · rw [decide_eq_true he] at hcm
                  have hf := parseI_yes (l := L) (by rw [← hk]; omega) (by rw [hlen.out]; omega) (by rw [hpn]; exact he)
                  rw [← hr.out, hpn] at hf
                  replace hf := hid hf
                  replace hn := hid hn
                  replace hk := hid hk
                  replace he := hid he
                  replace hpn := hid hpn
                  go_wp2_with (go_at_call 16; refine (specFmt (-(n : Int)) (by omega) (by omega) _).mono ?_; rintro e w' ⟨rfl, hb'⟩)
                  all_goals (go_ret2; exact ⟨ret_ib (by rw [hf.out]) (by rw [hf.out]), hb'⟩)
                · rw [decide_eq_false he] at hcm
                  have hf := parseI_other (l := L) (by rw [hpn]; exact he)
                  rw [← hr.out] at hf
                  replace hf := hid hf
                  replace hn := hid hn
                  replace hk := hid hk
                  replace he := hid he
                  replace hpn := hid hpn
                  go_wp2_with (go_at_call 16; refine (specFmt (-(n : Int)) (by omega) (by omega) _).mono ?_; rintro e w' ⟨rfl, hb'⟩)
                  all_goals (go_ret2; exact ⟨ret_ib (by rw [hf.out]) (by rw [hf.out]), hb'⟩)
          · have hm45 : ¬ L.head? = some 45 := by
              rw [hhd hpos]
              intro h
              exact hm (by rw [Option.some.inj h]; rfl)
            have hmb : ((s[0].toNat : Int) == 45) = false := by rw [beq_eq_false_iff_ne]; omega
            clear hhd
            replace hm := hid hm
            by_cases hk9 : 9 < k
            · have hf := parseI_many (l := L) (by rw [← hk]; omega)
              rw [← hr.out] at hf
              replace hf := hid hf
              replace hn := hid hn
              replace hk := hid hk
              go_wp2
              all_goals (go_ret2; exact ⟨ret_ib (by rw [hf.out]) (by rw [hf.out]), Below.refl _ _⟩)
            · by_cases hl10 : 10 < s.size
              · have hf := parseI_long (l := L) (by rw [hlen.out]; omega)
                rw [← hr.out] at hf
                replace hf := hid hf
                replace hn := hid hn
                replace hk := hid hk
                go_wp2
                all_goals (go_ret2; exact ⟨ret_ib (by rw [hf.out]) (by rw [hf.out]), Below.refl _ _⟩)
              · have hcm := fmtB_cmp hL.out ((n : Int))
                have hpn : pnum L = (n : Int) := by
                  unfold pnum
                  rw [if_neg hm45, ← hn]
                by_cases he : Lib.itoa ((n : Int)) = L
                · rw [decide_eq_true he] at hcm
                  have hf := parseI_yes (l := L) (by rw [← hk]; omega) (by rw [hlen.out]; omega) (by rw [hpn]; exact he)
                  rw [← hr.out, hpn] at hf
                  replace hf := hid hf
                  replace hn := hid hn
                  replace hk := hid hk
                  replace he := hid he
                  replace hpn := hid hpn
                  go_wp2_with (go_at_call 16; refine (specFmt ((n : Int)) (by omega) (by omega) _).mono ?_; rintro e w' ⟨rfl, hb'⟩)
                  all_goals (go_ret2; exact ⟨ret_ib (by rw [hf.out]) (by rw [hf.out]), hb'⟩)
                · rw [decide_eq_false he] at hcm
                  have hf := parseI_other (l := L) (by rw [hpn]; exact he)
                  rw [← hr.out] at hf
                  replace hf := hid hf
                  replace hn := hid hn
                  replace hk := hid hk
                  replace he := hid he
                  replace hpn := hid hpn
                  go_wp2_with (go_at_call 16; refine (specFmt ((n : Int)) (by omega) (by omega) _).mono ?_; rintro e w' ⟨rfl, hb'⟩)
                  all_goals (go_ret2; exact ⟨ret_ib (by rw [hf.out]) (by rw [hf.out]), hb'⟩)
        · have hm45 : ¬ L.head? = some 45 := by
            have h0 : L = [] := List.length_eq_zero_iff.1 (by rw [hlen.out]; omega)
            rw [h0]
            simp
          clear hhd
          by_cases hk9 : 9 < k
          · have hf := parseI_many (l := L) (by rw [← hk]; omega)
            rw [← hr.out] at hf
            replace hf := hid hf
            replace hn := hid hn
            replace hk := hid hk
            go_wp2
            all_goals (go_ret2; exact ⟨ret_ib (by rw [hf.out]) (by rw [hf.out]), Below.refl _ _⟩)
          · by_cases hl10 : 10 < s.size
            · have hf := parseI_long (l := L) (by rw [hlen.out]; omega)
              rw [← hr.out] at hf
              replace hf := hid hf
              replace hn := hid hn
              replace hk := hid hk
              go_wp2
              all_goals (go_ret2; exact ⟨ret_ib (by rw [hf.out]) (by rw [hf.out]), Below.refl _ _⟩)
            · have hcm := fmtB_cmp hL.out ((n : Int))
              have hpn : pnum L = (n : Int) := by
                unfold pnum
                rw [if_neg hm45, ← hn]
              by_cases he : Lib.itoa ((n : Int)) = L
              · rw [decide_eq_true he] at hcm
                have hf := parseI_yes (l := L) (by rw [← hk]; omega) (by rw [hlen.out]; omega) (by rw [hpn]; exact he)
                rw [← hr.out, hpn] at hf
                replace hf := hid hf
                replace hn := hid hn
                replace hk := hid hk
                replace he := hid he
                replace hpn := hid hpn
                go_wp2_with (go_at_call 16; refine (specFmt ((n : Int)) (by omega) (by omega) _).mono ?_; rintro e w' ⟨rfl, hb'⟩)
                all_goals (go_ret2; exact ⟨ret_ib (by rw [hf.out]) (by rw [hf.out]), hb'⟩)
              · rw [decide_eq_false he] at hcm
                have hf := parseI_other (l := L) (by rw [hpn]; exact he)
                rw [← hr.out] at hf
                replace hf := hid hf
                replace hn := hid hn
                replace hk := hid hk
                replace he := hid he
                replace hpn := hid hpn
                go_wp2_with (go_at_call 16; refine (specFmt ((n : Int)) (by omega) (by omega) _).mono ?_; rintro e w' ⟨rfl, hb'⟩)
                all_goals (go_ret2; exact ⟨ret_ib (by rw [hf.out]) (by rw [hf.out]), hb'⟩)
end Go.Proofs.YtkmhncbakfnfeaaDoor
