/- ParseInt, impl. -/
import Derived.Test.YtkmhncbakfnfeaaDoorFmtI
import Derived.WalkSmall
namespace Go.Proofs.YtkmhncbakfnfeaaDoor
open Go.RowKit
set_option linter.unusedVariables false

theorem cut_minus (s D : ByteArray) (h : s.data.toList = 45 :: D.data.toList) (w : World) :
    Calls Tryd.prog 59 #[.string s, .string ⟨#[45]⟩] w fun e w' => e = .returned (.tuple #[.string D, .bool true]) ∧ w = w' := by
  refine (Tryd.strings_CutPrefix s ⟨#[45]⟩ w).mono ?_
  rintro e w' ⟨rfl, rfl⟩
  refine ⟨?_, rfl⟩
  have h1 : Lib.hasPrefix s.data.toList (ByteArray.mk #[45]).data.toList = true := by rw [h]; simp [Lib.hasPrefix]
  have h2 : (⟨(Lib.trimPrefix s.data.toList (ByteArray.mk #[45]).data.toList).toArray⟩ : ByteArray) = D := by
    unfold Lib.trimPrefix
    rw [h1, h]
    exact Lib.mk_data D
  rw [h1, h2]
theorem cut_plain (s : ByteArray) (h : s.data.toList.head? ≠ some 45) (w : World) :
    Calls Tryd.prog 59 #[.string s, .string ⟨#[45]⟩] w fun e w' => e = .returned (.tuple #[.string s, .bool false]) ∧ w = w' := by
  refine (Tryd.strings_CutPrefix s ⟨#[45]⟩ w).mono ?_
  rintro e w' ⟨rfl, rfl⟩
  refine ⟨?_, rfl⟩
  have h1 : Lib.hasPrefix s.data.toList (ByteArray.mk #[45]).data.toList = false := by
    rw [Bool.eq_false_iff]
    intro h2
    apply h
    cases hl : s.data.toList with
    | nil => rw [hl] at h2; simp [Lib.hasPrefix] at h2
    | cons a t => rw [hl] at h2; simp [Lib.hasPrefix] at h2; simp [h2]
  have h2 : (⟨(Lib.trimPrefix s.data.toList (ByteArray.mk #[45]).data.toList).toArray⟩ : ByteArray) = s := by
    unfold Lib.trimPrefix
    rw [h1]
    exact Lib.mk_data s
  rw [h1, h2]

set_option maxHeartbeats 1600000 in
set_option maxRecDepth 100000 in
theorem implPar_minus (s : ByteArray) (D : ByteArray) (hsD : s.data.toList = 45 :: D.data.toList) (w : World) (hs : s.size ≤ 1048576) (htab : Lib.TabIs Tryd.prog w "internal/strconv.uint64pow10" .u64 Lib.pow10Tab) :
    Calls Tryd.prog 47 #[.string s] w fun e w' => e = .returned (.tuple #[.int .i64 (parseI s.data.toList).1, .bool (parseI s.data.toList).2]) ∧ Below w.heap.size w w' := by
  obtain ⟨L, hL⟩ : ∃ L, L = s.data.toList := ⟨_, rfl⟩
  obtain ⟨T, hT⟩ : ∃ T, T = D.data.toList := ⟨_, rfl⟩
  have hlen : T.length = D.size := by rw [hT]; rfl
  rw [← hL, ← hT] at hsD
  have hds : D.size ≤ s.size := by
    have h1 := congrArg List.length hsD
    have h2 : L.length = s.size := by rw [hL]; rfl
    simp only [List.length_cons] at h1
    omega
  rw [← hL]
  obtain ⟨r, hr⟩ : ∃ r, r = parseI L := ⟨_, rfl⟩
  rw [← hr]
  have htb := hid (Lib.tabBelow_of_tabIs htab)
  clear htab
  have hcut := hid (cut_minus s D (by rw [← hL, ← hT]; exact hsD) w)
  replace hsD := hid hsD
  replace hL := hid hL
  replace hT := hid hT
  replace hr := hid hr
  replace hlen := hid hlen
  by_cases h9 : 9 < D.size
  · have hf : r = (0, false) := by rw [hr.out, hsD.out]; exact parseI_minus_bad (Or.inr (by rw [hlen.out]; exact h9))
    replace hf := hid hf
    go_enter Tryd.func47, Tryd.ntmps47
    go_wp2_with (go_at_call 59; refine hcut.out.mono ?_; rintro e w' ⟨rfl, rfl⟩)
    go_ret2
    exact ⟨ret_ib (by rw [hf.out]) (by rw [hf.out]), Below.refl _ _⟩
  · go_enter Tryd.func47, Tryd.ntmps47
    go_wp2_with (go_at_call 59; refine hcut.out.mono ?_; rintro e w' ⟨rfl, rfl⟩)
    have hb0 : Below w.heap.size w (w.iter D 0) := (Below.refl _ _).alloc (Nat.le_refl _) _
    go_loopw [6, 8] (fun n _ wr => ∃ j : Nat, j ≤ D.size ∧ wr = w.iter D j ∧ n = .int .i64 (pv (T.take j)) ∧ (T.take j).all isD = true) (fun _ _ wr => D.size - wr.iterPos w.heap.size)
    case atStart => exact ⟨0, Nat.zero_le _, rfl, rfl, rfl⟩
    case round =>
      clear hb0
      obtain ⟨j, hj, rfl, rfl, hall⟩ := hrel
      have hbj : Below w.heap.size w (w.iter D j) := (Below.refl _ _).alloc (Nat.le_refl _) _
      by_cases hlt : j < D.size
      · have hjT : j < T.length := by rw [hlen.out]; exact hlt
        have e1 : T[j] = D[j] := by have h := hT.out; subst h; rfl
        cases hd : isD D[j] with
        | true =>
          have hdd := isD_iff.1 hd
          have htk : T.take (j + 1) = T.take j ++ [D[j]] := by rw [List.take_succ_eq_append_getElem hjT, e1]
          have hpb := pv_small (l := T.take j) (by rw [List.length_take]; omega)
          have hall2 : (T.take (j + 1)).all isD = true := by rw [htk]; simp [List.all_append, hall, hd]
          have hn : ((pv (T.take (j + 1)) : Nat) : Int) = 10 * (pv (T.take j) : Int) + ((D[j].toNat : Int) - 48) := by
            rw [htk, pv_snoc, pstep_dig hd]
            omega
          have hnx : ∀ ty, (Instr.next (.pointer (some ⟨w.heap.size, 0, none⟩)) true ty).run Tryd.prog (w.iter D j) = _ := fun ty => run_next_ascii w D j ty hlt (by omega)
          obtain ⟨hd1, hd2⟩ := hdd
          clear htk e1 hjT hall hd
          replace hn := hid hn
          replace hall2 := hid hall2
          go_wp2
          go_roundw
          case rel => exact ⟨j + 1, by omega, rfl, by rw [hn.out], hall2.out⟩
          case measure => simp; omega
        | false =>
          have hf : r = (0, false) := by
            have hbad : T.all isD = false := by
              rw [Bool.eq_false_iff]
              intro h
              have := List.all_eq_true.1 h T[j] (List.getElem_mem hjT)
              rw [e1, hd] at this
              cases this
            rw [hr.out, hsD.out]; exact parseI_minus_bad (Or.inl hbad)
          have hx : ¬ (48 ≤ ((Utf8.decode D j).1 : Int) ∧ ((Utf8.decode D j).1 : Int) ≤ 57) := by
            by_cases ha : (D[j]).toNat < 128
            · rw [decode_ascii D j hlt ha]
              have := (not_congr (isD_iff (c := D[j]))).1 (by rw [hd]; simp)
              simp only []
              omega
            · have := (decode_high D j hlt (by omega)).1
              omega
          have hnx : ∀ ty, (Instr.next (.pointer (some ⟨w.heap.size, 0, none⟩)) true ty).run Tryd.prog (w.iter D j) = _ := fun ty => run_next_any w D j ty hlt
          have hb2 : Below w.heap.size w (w.iter D (j + (Utf8.decode D j).2)) := (Below.refl _ _).alloc (Nat.le_refl _) _
          obtain ⟨rn, hrn⟩ : ∃ rn : Int, rn = ((Utf8.decode D j).1 : Int) := ⟨_, rfl⟩
          rw [← hrn] at hx
          simp only [← hrn] at hnx
          clear hrn e1 hjT hall hd
          replace hf := hid hf
          by_cases hlo : rn < 48
          · clear hx
            go_wp2
            go_ret2
            exact ⟨ret_ib (by rw [hf.out]) (by rw [hf.out]), hb2⟩
          · have hhi : 57 < rn := by omega
            clear hx
            go_wp2
            go_ret2
            exact ⟨ret_ib (by rw [hf.out]) (by rw [hf.out]), hb2⟩
      · have hnx : ∀ ty, (Instr.next (.pointer (some ⟨w.heap.size, 0, none⟩)) true ty).run Tryd.prog (w.iter D j) = _ := fun ty => run_next_end w D j ty hlt
        have htk : T.take j = T := List.take_of_length_le (by rw [hlen.out]; omega)
        rw [htk] at hall ⊢
        have hpb := pv_small (l := T) (by rw [hlen.out]; omega)
        have hcm := fmtB_cmp hL.out (-(pv T : Int))
        clear htk
        replace hall := hid hall
        by_cases he : Lib.itoa (-(pv T : Int)) = L
        · rw [decide_eq_true he] at hcm
          have hf : r = (-(pv T : Int), true) := by rw [hr.out, hsD.out]; exact parseI_minus (by rw [hlen.out]; omega) (by rw [← hsD.out]; exact he)
          replace hf := hid hf
          replace he := hid he
          go_wp2_with (go_at_call 20; refine (implFmt (-(pv T : Int)) (by omega) (by omega) _ (htb.out _ hbj)).mono ?_; rintro e w' ⟨rfl, hb'⟩)
          have hb2 := hbj.trans (hb'.mono hbj.size)
          go_wp2
          go_ret2
          exact ⟨ret_ib (by rw [hf.out]) (by rw [hf.out]), hb2⟩
        · rw [decide_eq_false he] at hcm
          have hf : r = (0, false) := by rw [hr.out, hsD.out]; exact parseI_minus_not (by rw [hlen.out]; omega) (by rw [← hsD.out]; exact he)
          replace hf := hid hf
          replace he := hid he
          go_wp2_with (go_at_call 20; refine (implFmt (-(pv T : Int)) (by omega) (by omega) _ (htb.out _ hbj)).mono ?_; rintro e w' ⟨rfl, hb'⟩)
          have hb2 := hbj.trans (hb'.mono hbj.size)
          go_wp2
          go_ret2
          exact ⟨ret_ib (by rw [hf.out]) (by rw [hf.out]), hb2⟩

set_option maxHeartbeats 1600000 in
set_option maxRecDepth 100000 in
theorem implPar_plain (s : ByteArray) (hsD : s.data.toList.head? ≠ some 45) (w : World) (hs : s.size ≤ 1048576) (htab : Lib.TabIs Tryd.prog w "internal/strconv.uint64pow10" .u64 Lib.pow10Tab) :
    Calls Tryd.prog 47 #[.string s] w fun e w' => e = .returned (.tuple #[.int .i64 (parseI s.data.toList).1, .bool (parseI s.data.toList).2]) ∧ Below w.heap.size w w' := by
  obtain ⟨L, hL⟩ : ∃ L, L = s.data.toList := ⟨_, rfl⟩
  obtain ⟨T, hT⟩ : ∃ T, T = s.data.toList := ⟨_, rfl⟩
  have hlen : T.length = s.size := by rw [hT]; rfl
  rw [← hL] at hsD
  have hTL : T = L := hT.trans hL.symm
  replace hTL := hid hTL
  have hds : s.size ≤ s.size := Nat.le_refl _
  rw [← hL]
  obtain ⟨r, hr⟩ : ∃ r, r = parseI L := ⟨_, rfl⟩
  rw [← hr]
  have htb := hid (Lib.tabBelow_of_tabIs htab)
  clear htab
  have hcut := hid (cut_plain s (by rw [← hL]; exact hsD) w)
  replace hsD := hid hsD
  replace hL := hid hL
  replace hT := hid hT
  replace hr := hid hr
  replace hlen := hid hlen
  by_cases h9 : 9 < s.size
  · have hf : r = (0, false) := by rw [hr.out]; exact parseI_plain_bad hsD.out (by rw [← hTL.out]; exact (Or.inr (by rw [hlen.out]; exact h9)))
    replace hf := hid hf
    go_enter Tryd.func47, Tryd.ntmps47
    go_wp2_with (go_at_call 59; refine hcut.out.mono ?_; rintro e w' ⟨rfl, rfl⟩)
    go_ret2
    exact ⟨ret_ib (by rw [hf.out]) (by rw [hf.out]), Below.refl _ _⟩
  · go_enter Tryd.func47, Tryd.ntmps47
    go_wp2_with (go_at_call 59; refine hcut.out.mono ?_; rintro e w' ⟨rfl, rfl⟩)
    have hb0 : Below w.heap.size w (w.iter s 0) := (Below.refl _ _).alloc (Nat.le_refl _) _
    go_loopw [6, 8] (fun n _ wr => ∃ j : Nat, j ≤ s.size ∧ wr = w.iter s j ∧ n = .int .i64 (pv (T.take j)) ∧ (T.take j).all isD = true) (fun _ _ wr => s.size - wr.iterPos w.heap.size)
    case atStart => exact ⟨0, Nat.zero_le _, rfl, rfl, rfl⟩
    case round =>
      clear hb0
      obtain ⟨j, hj, rfl, rfl, hall⟩ := hrel
      have hbj : Below w.heap.size w (w.iter s j) := (Below.refl _ _).alloc (Nat.le_refl _) _
      by_cases hlt : j < s.size
      · have hjT : j < T.length := by rw [hlen.out]; exact hlt
        have e1 : T[j] = s[j] := by have h := hT.out; subst h; rfl
        cases hd : isD s[j] with
        | true =>
          have hdd := isD_iff.1 hd
          have htk : T.take (j + 1) = T.take j ++ [s[j]] := by rw [List.take_succ_eq_append_getElem hjT, e1]
          have hpb := pv_small (l := T.take j) (by rw [List.length_take]; omega)
          have hall2 : (T.take (j + 1)).all isD = true := by rw [htk]; simp [List.all_append, hall, hd]
          have hn : ((pv (T.take (j + 1)) : Nat) : Int) = 10 * (pv (T.take j) : Int) + ((s[j].toNat : Int) - 48) := by
            rw [htk, pv_snoc, pstep_dig hd]
            omega
          have hnx : ∀ ty, (Instr.next (.pointer (some ⟨w.heap.size, 0, none⟩)) true ty).run Tryd.prog (w.iter s j) = _ := fun ty => run_next_ascii w s j ty hlt (by omega)
          obtain ⟨hd1, hd2⟩ := hdd
          clear htk e1 hjT hall hd
          replace hn := hid hn
          replace hall2 := hid hall2
          go_wp2
          go_roundw
          case rel => exact ⟨j + 1, by omega, rfl, by rw [hn.out], hall2.out⟩
          case measure => simp; omega
        | false =>
          have hf : r = (0, false) := by
            have hbad : T.all isD = false := by
              rw [Bool.eq_false_iff]
              intro h
              have := List.all_eq_true.1 h T[j] (List.getElem_mem hjT)
              rw [e1, hd] at this
              cases this
            rw [hr.out]; exact parseI_plain_bad hsD.out (by rw [← hTL.out]; exact (Or.inl hbad))
          have hx : ¬ (48 ≤ ((Utf8.decode s j).1 : Int) ∧ ((Utf8.decode s j).1 : Int) ≤ 57) := by
            by_cases ha : (s[j]).toNat < 128
            · rw [decode_ascii s j hlt ha]
              have := (not_congr (isD_iff (c := s[j]))).1 (by rw [hd]; simp)
              simp only []
              omega
            · have := (decode_high s j hlt (by omega)).1
              omega
          have hnx : ∀ ty, (Instr.next (.pointer (some ⟨w.heap.size, 0, none⟩)) true ty).run Tryd.prog (w.iter s j) = _ := fun ty => run_next_any w s j ty hlt
          have hb2 : Below w.heap.size w (w.iter s (j + (Utf8.decode s j).2)) := (Below.refl _ _).alloc (Nat.le_refl _) _
          obtain ⟨rn, hrn⟩ : ∃ rn : Int, rn = ((Utf8.decode s j).1 : Int) := ⟨_, rfl⟩
          rw [← hrn] at hx
          simp only [← hrn] at hnx
          clear hrn e1 hjT hall hd
          replace hf := hid hf
          by_cases hlo : rn < 48
          · clear hx
            go_wp2
            go_ret2
            exact ⟨ret_ib (by rw [hf.out]) (by rw [hf.out]), hb2⟩
          · have hhi : 57 < rn := by omega
            clear hx
            go_wp2
            go_ret2
            exact ⟨ret_ib (by rw [hf.out]) (by rw [hf.out]), hb2⟩
      · have hnx : ∀ ty, (Instr.next (.pointer (some ⟨w.heap.size, 0, none⟩)) true ty).run Tryd.prog (w.iter s j) = _ := fun ty => run_next_end w s j ty hlt
        have htk : T.take j = T := List.take_of_length_le (by rw [hlen.out]; omega)
        rw [htk] at hall ⊢
        have hpb := pv_small (l := T) (by rw [hlen.out]; omega)
        have hcm := fmtB_cmp hL.out ((pv T : Int))
        clear htk
        replace hall := hid hall
        by_cases he : Lib.itoa ((pv T : Int)) = L
        · rw [decide_eq_true he] at hcm
          have hf : r = ((pv T : Int), true) := by rw [hr.out, ← hTL.out]; exact parseI_plain (by rw [hTL.out]; exact hsD.out) (by rw [hlen.out]; omega) (by rw [hTL.out] at he ⊢; exact he)
          replace hf := hid hf
          replace he := hid he
          go_wp2_with (go_at_call 20; refine (implFmt ((pv T : Int)) (by omega) (by omega) _ (htb.out _ hbj)).mono ?_; rintro e w' ⟨rfl, hb'⟩)
          have hb2 := hbj.trans (hb'.mono hbj.size)
          go_wp2
          go_ret2
          exact ⟨ret_ib (by rw [hf.out]) (by rw [hf.out]), hb2⟩
        · rw [decide_eq_false he] at hcm
          have hf : r = (0, false) := by rw [hr.out, ← hTL.out]; exact parseI_plain_not (by rw [hTL.out]; exact hsD.out) (by rw [hlen.out]; omega) (by rw [hTL.out] at he ⊢; exact he)
          replace hf := hid hf
          replace he := hid he
          go_wp2_with (go_at_call 20; refine (implFmt ((pv T : Int)) (by omega) (by omega) _ (htb.out _ hbj)).mono ?_; rintro e w' ⟨rfl, hb'⟩)
          have hb2 := hbj.trans (hb'.mono hbj.size)
          go_wp2
          go_ret2
          exact ⟨ret_ib (by rw [hf.out]) (by rw [hf.out]), hb2⟩

theorem implPar (s : ByteArray) (w : World) (hs : s.size ≤ 1048576) (htab : Lib.TabIs Tryd.prog w "internal/strconv.uint64pow10" .u64 Lib.pow10Tab) :
    Calls Tryd.prog 47 #[.string s] w fun e w' => e = .returned (.tuple #[.int .i64 (parseI s.data.toList).1, .bool (parseI s.data.toList).2]) ∧ Below w.heap.size w w' := by
  by_cases h : s.data.toList.head? = some 45
  · cases hl : s.data.toList with
    | nil => rw [hl] at h; cases h
    | cons a t =>
      rw [hl] at h
      have ha : a = 45 := by simpa using h
      subst ha
      have := implPar_minus s ⟨t.toArray⟩ (by simpa using hl) w hs htab
      rw [hl] at this
      exact this
  · exact implPar_plain s h w hs htab
end Go.Proofs.YtkmhncbakfnfeaaDoor
