/- For every slice of bytes, laws.FnIntegerEncodings returns true and leaves its argument as it is: an encoded number is decoded again, whatever follows. Conditions: the row's own: the three tables of Go's library that it lists hold what the program's text lays (the card ties them). -/
import Derived.Test.YtdacfnoemjleiaaDoorIE
import Derived.Test.YtdacfnoemjleiaaDoorTie
import Derived.Test.YtdacfnoemjleiaaDoorCards
import Derived.WalkKit
import Derived.ProofKit
import Derived.OpenShut
import Derived.ShutString
import Derived.Below
import Derived.LaidMore
import Derived.Stop.Joined
import Derived.SevenTiedAt
import Derived.Lib.LaidTab
import Derived.Lib.AppendIntMem
import Derived.Deep.DeepCutAuto
namespace Go.Proofs.YtdacfnoemjleiaaDoor.fnIntegerEncodings
open Go.ChangeShapes Go.WideShapes Go.ChangeAt Go.RowKit
open Go.ChangeMaps (open_string shut_string)
set_option linter.unusedVariables false

theorem own : ownKnob Tryd.prog.godebug = none := by kernel_rfl

theorem laidOut : laidOutB Tryd.prog = true := by kernel_rfl
theorem codeIn_mono {B B' : Nat} {w : World} {a : Option Addr} {len : Nat} (h : CodeIn B w a len) (hB : B ≤ B') : CodeIn B' w a len :=
  ⟨h.1, h.2.imp id (fun ⟨b, off, ha, hb, hc⟩ => ⟨b, off, ha, by omega, hc⟩)⟩
set_option maxHeartbeats 4000000 in
set_option maxRecDepth 100000 in
theorem walk0 (a : Option Addr) (len cap : Nat) (w : World) (hcode : CodeIn w.heap.size w a len) (htab : Lib.TabIs Tryd.prog w "internal/strconv.uint64pow10" .u64 Lib.pow10Tab) :
    Calls Tryd.prog 3 #[.slice a len cap] w fun e w' => e = .returned (.bool true) ∧ Below w.heap.size w w' := by
  have htb := hid (Lib.tabBelow_of_tabIs htab)
  have hl := hcode.1
  replace hcode := hid hcode
  clear htab
  go_enter Tryd.func3, Tryd.ntmps3
  go_wp2_with fail
  refine (big_no _ a len cap hl).mono ?_
  rintro e w0 ⟨rfl, rfl⟩
  go_wp2_with fail
  refine (drawV_any _ a len cap hcode.out).mono ?_
  rintro e w1 ⟨n, hn, rfl, hb1⟩
  have hcode1 := hid (hcode.out.below hb1)
  replace hn := hid hn
  go_wp2_with fail
  refine (drawX_any _ a len cap (codeIn_mono hcode1.out hb1.size)).mono ?_
  rintro e w2 ⟨bs, hbs, rfl, hb2'⟩
  have hb2 := hb1.trans (hb2'.mono hb1.size)
  have hcode2 := hid (hcode.out.below hb2)
  obtain ⟨T, hT⟩ : ∃ T : ByteArray, T = ⟨bs.toArray⟩ := ⟨_, rfl⟩
  have hTs : T.size ≤ 40 := by rw [hT]; show bs.toArray.size ≤ 40; rw [List.size_toArray]; exact hbs
  rw [← hT]
  have hTd : T.data.toList = bs := by rw [hT]
  replace hTd := hid hTd
  clear hb1 hb2' hbs hT hcode1
  go_wp2_with fail
  obtain ⟨S, hS⟩ : ∃ S, encV n = S := ⟨_, rfl⟩
  have hEV := implEncV n w2
  rw [hS] at hEV
  refine hEV.mono ?_
  rintro e w3 ⟨rfl, hb3'⟩
  have hb3 := hb2.trans (hb3'.mono hb2.size)
  have hSs : S.size ≤ 7 := by rw [← hS]; exact encV_size n
  have hcode3 := hid (hcode.out.below hb3)
  replace hS := hid hS
  clear hb2 hb3' hEV hcode2
  go_wp2_with fail
  obtain ⟨r, hr⟩ : ∃ r, decV (S ++ T).data.toList = r := ⟨_, rfl⟩
  have hDV := implDecV (S ++ T) w3 (by rw [ByteArray.size_append]; omega)
  rw [hr] at hDV
  refine hDV.mono ?_
  rintro e w4 ⟨rfl, hb4'⟩
  have hb4 := hb3.trans (hb4'.mono hb3.size)
  have hcode4 := hid (hcode.out.below hb4)
  replace hr := hid hr
  clear hb3 hb4' hDV hcode3
  go_upto_region 7 with fail
  go_cut [57] (fun v wx => v = .bool false ∧ wx = w4)
  case first =>
    by_cases hin : 0 ≤ n ∧ n ≤ 562949953421311
    · obtain ⟨q, rfl⟩ := Int.eq_ofNat_of_zero_le hin.1
      have hSq : S = ⟨(leb q).toArray⟩ := by rw [← hS.out, encV_in (by omega)]
      have hrq : r = (q, (leb q).length) := by
        rw [← hr.out, hSq, ByteArray.data_append, Array.toList_append]
        exact decV_leb _ (by omega)
      have hr1 : ((r.1 : Int) != (q : Int)) = false := by rw [hrq]; simp
      have hsz : S.size = (leb q).length := by rw [hSq]; exact List.size_toArray
      have hr2 : ((r.2 : Int) != (S.size : Int)) = false := by rw [hrq, hsz]; simp
      have hne : S.toList ≠ [] := by
        rw [hSq, ByteArray.toList_mk]
        intro h
        have := leb_pos q
        rw [h] at this
        simp at this
      have hs1 : (S.toList == []) = false := by simpa using hne
      have hs2 : S.toList.isEmpty = false := by simpa using hne
      obtain ⟨hin0, hin1⟩ := hin
      clear hrq hSq hsz
      replace hne := hid hne
      go_wp2_with fail
      go_meet
      exact ⟨rfl, rfl⟩
    · have hS0 : S = ⟨#[]⟩ := by rw [← hS.out]; exact encV_out (by omega)
      have hs3 : S.toList = [] := by rw [hS0]; exact ByteArray.toList_mk []
      have hs1 : (S.toList == []) = true := by rw [hs3]; rfl
      have hs2 : S.toList.isEmpty = true := by rw [hs3]; rfl
      clear hS0
      by_cases h0 : 0 ≤ n
      · have h1 : decide (n ≤ 562949953421311) = false := by simp; omega
        clear hin
        go_wp2_with fail
        go_meet
        exact ⟨rfl, rfl⟩
      · clear hin
        go_wp2_with fail
        go_meet
        exact ⟨rfl, rfl⟩
  case rest =>
    obtain ⟨rfl, rfl⟩ := hcut
    clear hS hr hSs hn
    go_wp2_with fail
    refine (drawF_any _ a len cap (codeIn_mono hcode4.out hb4.size)).mono ?_
    rintro e w5 ⟨m, x, hm, hx0, hx1, rfl, hb5'⟩
    have hb5 := hb4.trans (hb5'.mono hb4.size)
    replace hm := hid hm
    clear hb4 hb5' hcode4
    go_wp2_with fail
    obtain ⟨F, hF⟩ : ∃ F, encFI m x = F := ⟨_, rfl⟩
    have hEF := implEncF_all m x w5 hm.out
    rw [hF] at hEF
    refine hEF.mono ?_
    rintro e w6 ⟨rfl, hb6'⟩
    have hb6 := hb5.trans (hb6'.mono hb5.size)
    have hFs : F.size ≤ 7 := by rw [← hF]; exact encFI_size m x
    have hcs := encFI_cases m x
    rw [hF] at hcs
    replace hF := hid hF
    clear hb5 hb6' hEF
    have hSE := fun w => specEncF_all m x w hm.out
    rw [hF.out] at hSE
    replace hSE := hid hSE
    rcases hcs with hF0 | ⟨q, k, rfl, rfl, hk1, hk7, hz, hFl⟩
    · have hs3 : F.toList = [] := by rw [hF0]; exact ByteArray.toList_mk []
      have hs1 : (F.toList == []) = true := by rw [hs3]; rfl
      have hs2 : F.toList.isEmpty = true := by rw [hs3]; rfl
      clear hF0
      replace hF := hid hF
      go_wp2_with fail
      refine (implDecF_any (F ++ T) x w6 (by rw [ByteArray.size_append]; omega)).mono ?_
      rintro e w7 ⟨y, b, rfl, rfl⟩
      go_wp2_with fail
      refine (hSE.out _).mono ?_
      rintro e w8 ⟨rfl, hb8'⟩
      have hb8 := hb6.trans (hb8'.mono hb6.size)
      clear hb6 hb8'
      go_wp2_with fail
      obtain ⟨H, hH⟩ : ∃ H : ByteArray, (⟨(hexL T.data.toList).toArray⟩ : ByteArray) = H := ⟨_, rfl⟩
      have hEH := implHexE T w8 (by omega)
      rw [hH] at hEH
      refine hEH.mono ?_
      rintro e w9 ⟨rfl, hb9'⟩
      have hb9 := hb8.trans (hb9'.mono hb8.size)
      have hHd : H.data.toList = hexL T.data.toList := by rw [← hH]
      have hHs : H.size = 2 * T.size := by
        rw [← hH]
        show (hexL T.data.toList).toArray.size = _
        rw [List.size_toArray, hexL_length]
        rfl
      have hHc : ((H.size : Int) == 2 * (T.size : Int)) = true := by simp; omega
      have hDH := implHexD H w9 (by omega)
      rw [hHd, decHex_hexL, show (⟨(T.data.toList, true).1.toArray⟩ : ByteArray) = T from Lib.mk_data T] at hDH
      clear hb8 hb9' hEH hH hHd
      replace hHs := hid hHs
      go_wp2_with fail
      refine hDH.mono ?_
      rintro e w10 ⟨rfl, hb10'⟩
      have hb10 := hb9.trans (hb10'.mono hb9.size)
      clear hb9 hb10' hDH
      go_wp2_with fail
      obtain ⟨D, hD⟩ : ∃ D, fmtB (m) = D := ⟨_, rfl⟩
      have hFI := implFmt (m) hm.out.1 hm.out.2 w10 (htb.out _ hb10)
      rw [hD] at hFI
      refine hFI.mono ?_
      rintro e w11 ⟨rfl, hb11'⟩
      have hb11 := hb10.trans (hb11'.mono hb10.size)
      have hDd : D.data.toList = Lib.itoa (m) := by rw [← hD]; rfl
      have hDs : D.size ≤ 1048576 := by
        rw [← hD]
        exact fmtB_size hm.out
      have hSF := fun w => specFmt (m) hm.out.1 hm.out.2 w
      rw [hD] at hSF
      replace hSF := hid hSF
      have hPI := implPar D w11 hDs (htb.out _ hb11)
      rw [hDd] at hPI
      clear hb10 hb11' hFI hDd hDs
      replace hD := hid hD
      go_wp2_with fail
      by_cases hpi : -1000000000 < (m) ∧ (m) < 1000000000
      · rw [parseI_itoa_in hpi.1 hpi.2] at hPI
        refine hPI.mono ?_
        rintro e w12 ⟨rfl, hb12'⟩
        have hb12 := hb11.trans (hb12'.mono hb11.size)
        obtain ⟨hp1, hp2⟩ := hpi
        clear hb11 hb12' hPI
        go_wp2_with fail
        refine (hSF.out _).mono ?_
        rintro e w13 ⟨rfl, hb13'⟩
        have hb13 := hb12.trans (hb13'.mono hb12.size)
        clear hb12 hb13'
        go_wp2_with fail
        go_ret
        exact ⟨rfl, hb13⟩
      · rw [parseI_itoa_out (by omega)] at hPI
        refine hPI.mono ?_
        rintro e w12 ⟨rfl, hb12'⟩
        have hb12 := hb11.trans (hb12'.mono hb11.size)
        clear hb11 hb12' hPI
        by_cases hp1 : -1000000000 < (m)
        · have hp2 : decide ((m) < 1000000000) = false := by simp; omega
          clear hpi
          go_wp2_with fail
          refine (hSF.out _).mono ?_
          rintro e w13 ⟨rfl, hb13'⟩
          have hb13 := hb12.trans (hb13'.mono hb12.size)
          clear hb12 hb13'
          go_wp2_with fail
          go_ret
          exact ⟨rfl, hb13⟩
        · clear hpi
          go_wp2_with fail
          refine (hSF.out _).mono ?_
          rintro e w13 ⟨rfl, hb13'⟩
          have hb13 := hb12.trans (hb13'.mono hb12.size)
          clear hb12 hb13'
          go_wp2_with fail
          go_ret
          exact ⟨rfl, hb13⟩
    · have hsz : F.size = k := by rw [hFl]; show (low q k).toArray.size = k; rw [List.size_toArray, low_length]
      have hDF := implDecF_yes (F ++ T) k w6 hk1 hk7 (by rw [ByteArray.size_append]; omega) (by rw [ByteArray.size_append]; omega)
      have hdq : dec256 ((F ++ T).data.toList.take k) = q := by
        rw [ByteArray.data_append, Array.toList_append, hFl, List.take_append_of_le_length (by rw [low_length]; exact Nat.le_refl _), List.take_of_length_le (by rw [low_length]; exact Nat.le_refl _)]
        exact low_back hz
      rw [hdq] at hDF
      have hne : F.toList ≠ [] := by
        rw [hFl, ByteArray.toList_mk]
        intro h
        have := low_length q k
        rw [h] at this
        simp at this
        omega
      have hs1 : (F.toList == []) = false := by simpa using hne
      have hs2 : F.toList.isEmpty = false := by simpa using hne
      have hsc : ((F.size : Int) != (k : Int)) = false := by rw [hsz]; simp
      clear hsz hdq hFl hz
      replace hne := hid hne
      go_wp2_with fail
      refine hDF.mono ?_
      rintro e w7 ⟨rfl, rfl⟩
      clear hDF
      go_wp2_with fail
      refine (hSE.out _).mono ?_
      rintro e w8 ⟨rfl, hb8'⟩
      have hb8 := hb6.trans (hb8'.mono hb6.size)
      clear hb6 hb8'
      go_wp2_with fail
      obtain ⟨H, hH⟩ : ∃ H : ByteArray, (⟨(hexL T.data.toList).toArray⟩ : ByteArray) = H := ⟨_, rfl⟩
      have hEH := implHexE T w8 (by omega)
      rw [hH] at hEH
      refine hEH.mono ?_
      rintro e w9 ⟨rfl, hb9'⟩
      have hb9 := hb8.trans (hb9'.mono hb8.size)
      have hHd : H.data.toList = hexL T.data.toList := by rw [← hH]
      have hHs : H.size = 2 * T.size := by
        rw [← hH]
        show (hexL T.data.toList).toArray.size = _
        rw [List.size_toArray, hexL_length]
        rfl
      have hHc : ((H.size : Int) == 2 * (T.size : Int)) = true := by simp; omega
      have hDH := implHexD H w9 (by omega)
      rw [hHd, decHex_hexL, show (⟨(T.data.toList, true).1.toArray⟩ : ByteArray) = T from Lib.mk_data T] at hDH
      clear hb8 hb9' hEH hH hHd
      replace hHs := hid hHs
      go_wp2_with fail
      refine hDH.mono ?_
      rintro e w10 ⟨rfl, hb10'⟩
      have hb10 := hb9.trans (hb10'.mono hb9.size)
      clear hb9 hb10' hDH
      go_wp2_with fail
      obtain ⟨D, hD⟩ : ∃ D, fmtB ((q : Int)) = D := ⟨_, rfl⟩
      have hFI := implFmt ((q : Int)) hm.out.1 hm.out.2 w10 (htb.out _ hb10)
      rw [hD] at hFI
      refine hFI.mono ?_
      rintro e w11 ⟨rfl, hb11'⟩
      have hb11 := hb10.trans (hb11'.mono hb10.size)
      have hDd : D.data.toList = Lib.itoa ((q : Int)) := by rw [← hD]; rfl
      have hDs : D.size ≤ 1048576 := by
        rw [← hD]
        exact fmtB_size hm.out
      have hSF := fun w => specFmt ((q : Int)) hm.out.1 hm.out.2 w
      rw [hD] at hSF
      replace hSF := hid hSF
      have hPI := implPar D w11 hDs (htb.out _ hb11)
      rw [hDd] at hPI
      clear hb10 hb11' hFI hDd hDs
      replace hD := hid hD
      go_wp2_with fail
      by_cases hpi : -1000000000 < ((q : Int)) ∧ ((q : Int)) < 1000000000
      · rw [parseI_itoa_in hpi.1 hpi.2] at hPI
        refine hPI.mono ?_
        rintro e w12 ⟨rfl, hb12'⟩
        have hb12 := hb11.trans (hb12'.mono hb11.size)
        obtain ⟨hp1, hp2⟩ := hpi
        clear hb11 hb12' hPI
        go_wp2_with fail
        refine (hSF.out _).mono ?_
        rintro e w13 ⟨rfl, hb13'⟩
        have hb13 := hb12.trans (hb13'.mono hb12.size)
        clear hb12 hb13'
        go_wp2_with fail
        go_ret
        exact ⟨rfl, hb13⟩
      · rw [parseI_itoa_out (by omega)] at hPI
        refine hPI.mono ?_
        rintro e w12 ⟨rfl, hb12'⟩
        have hb12 := hb11.trans (hb12'.mono hb11.size)
        clear hb11 hb12' hPI
        by_cases hp1 : -1000000000 < ((q : Int))
        · have hp2 : decide (((q : Int)) < 1000000000) = false := by simp; omega
          clear hpi
          go_wp2_with fail
          refine (hSF.out _).mono ?_
          rintro e w13 ⟨rfl, hb13'⟩
          have hb13 := hb12.trans (hb13'.mono hb12.size)
          clear hb12 hb13'
          go_wp2_with fail
          go_ret
          exact ⟨rfl, hb13⟩
        · exfalso
          omega

theorem walk (a : Option Addr) (len cap : Nat) (zs : List Int) (w : World) (w0 : IsRow .u8 w a len cap zs) (htab : Lib.TabIs Tryd.prog w "internal/strconv.uint64pow10" .u64 Lib.pow10Tab) :
    Calls Tryd.prog 3 #[.slice a len cap] w fun e w' => e = .returned (.bool true) ∧ Below w.heap.size w w' := by
  by_cases hbig : 1048576 < len
  · go_enter Tryd.func3, Tryd.ntmps3
    go_wp2_with fail
    refine (big_yes _ a len cap hbig).mono ?_
    rintro e w0 ⟨rfl, rfl⟩
    go_wp2_with fail
    go_ret
    exact ⟨rfl, Below.refl _ _⟩
  · exact walk0 a len cap w (codeIn_row w0 (by omega)) htab

/-! ### The row's step -/
theorem door_met (os : Os) (args : Array Value) : laidMetH Tryd.prog Rows.fnIntegerEncodingsRow.laid ((World.doorLaid Tryd.prog 24 os).forCall (fun _ _ => 0) ⟨#[], args, []⟩).memory :=
  laidMetH_of_parts3 (fuel := 8) (laidMet_of_run' 8 (by kernel_rfl) (by kernel_rfl)) (by kernel_rfl) (by kernel_rfl)
theorem gPow : Tryd.prog.globalNamed "internal/strconv.uint64pow10" = some 0 := by kernel_rfl
theorem tPow : (Tryd.prog.globals[0]?).map (·.type) = some 63 := by kernel_rfl
theorem of_laid {W : World} (h : laidMetH Tryd.prog Rows.fnIntegerEncodingsRow.laid W) : Lib.TabIs Tryd.prog W "internal/strconv.uint64pow10" .u64 Lib.pow10Tab := by
  rw [MakeChecks.laidMetH_plain _ _ _ (by kernel_rfl)] at h
  obtain ⟨ps, ⟨_, _, _, _, _, _, _, _, _, _, ⟨_, _, _, _, _, _, _, _, _, _, ⟨g, t, cs, fuel, p, q, hg, ht, hvar, hd, _, _⟩, _⟩, _⟩, _⟩ := h
  obtain rfl := Option.some.inj (gPow.symm.trans hg)
  obtain rfl := Option.some.inj (tPow.symm.trans ht)
  unfold Lib.TabIs
  have hd' : DataW.trod (fun _ => ()) Tryd.prog W 0 (fun _ => true) false fuel 63 cs.toList = some (Lib.tabData .u64 Lib.pow10Tab, p) := hd
  rw [hvar, ← Lib.cells_of_tab Tryd.underlying63 Tryd.underlying56 (by kernel_rfl) (by kernel_rfl) hd']

set_option maxRecDepth 100000 in
theorem lifted (os : Os) (started : os.Started) (H : Type) (enc : TypeId × Value → H) :
    ReturnsInHanded {} Tryd.checked os 3 .any (fun w args => (Rows.fnIntegerEncodingsSpec.pre enc Tryd.prog Tryd.f3 [] false w args ∧ laidMetH Tryd.prog Rows.fnIntegerEncodingsRow.laid w) ∧ sizedMet enc Tryd.prog Tryd.f3 (OpenSpec.ofChange Rows.fnIntegerEncodingsSpec) false w args)
      (Rows.fnIntegerEncodingsSpec.post enc Tryd.prog Tryd.f3 false true false false) := by
  refine returnsInHanded_of_change_and (C := Tryd.checked) (X := fun w _ => laidMetH Tryd.prog Rows.fnIntegerEncodingsRow.laid w) (fun _ _ _ hh h => h.of_heap hh) own started (by kernel_rfl) Tryd.func3
    (ChangeSpec.witness_shaped (enc := enc) (C := Tryd.checked) (os := os) (X := fun w _ => laidMetH Tryd.prog Rows.fnIntegerEncodingsRow.laid w) false (World.doorLaid Tryd.prog 24 os) #[.slice none 0 0] 8 rfl (World.shaped_of_RefB (by kernel_rfl) (by kernel_rfl)) (by kernel_rfl) (by kernel_rfl) (by kernel_rfl) (door_met os _)) ?_
  intro W base args ds gs before hval0 hW _ _ hL _
  have hval : ∀ (j : Nat) t v, Tryd.f3.params[j]? = some t → args[j]? = some v → Value.okWide Tryd.prog W .any base t v := hval0
  have hW' := hW
  obtain ⟨p, q, hA0, hV, rfl, hfz, hnd⟩ := hW
  have hA : DataW.TrodAll enc Tryd.prog W 0 (fun _ => true) true Tryd.f3.params.toList args.toList ds p := hA0
  rw [Tryd.params3] at hA hval
  obtain ⟨v0, vs0, d0, ds0, p0, q0, hargs, rfl, rfl, h0, r0⟩ := trodAll_cons hA
  obtain ⟨rfl, rfl, rfl⟩ := trodAll_nil r0
  obtain rfl : args = #[v0] := by cases args; simp_all
  obtain ⟨rfl, rfl⟩ := trodVars_none hV
  have htab := of_laid hL
  obtain ⟨a0, len0, cap0, rfl⟩ := okWide_slice Tryd.underlying22 (hval 0 22 v0 rfl rfl)
  have k0 := h0
  have lt0 : ∀ x ∈ p0, x.block < W.heap.size := by obtain ⟨m, hm⟩ := k0; exact DataW.trod_lt m _ _ _ hm
  obtain ⟨z0, w0⟩ : ∃ zs, IsRow .u8 W a0 len0 cap0 zs := by
    obtain ⟨fuel, hf⟩ := h0
    rcases open_ints Tryd.underlying22 Tryd.underlying5 (by kernel_rfl) hf with ⟨hcs, _⟩ | ⟨x, l, c, zs, hcs, _, hl, hm, hz, _, hcell, hwz⟩
    · simp [Value.cells] at hcs
      obtain ⟨rfl, rfl, rfl⟩ := hcs
      exact ⟨[], .inl ⟨rfl, rfl, rfl, rfl⟩⟩
    · simp [Value.cells] at hcs
      obtain ⟨rfl, rfl, rfl⟩ := hcs
      exact ⟨zs, .inr ⟨_, rfl, hl, hm, by simpa using hz, hcell, hwz⟩⟩
  clear hA0 hval0
  refine (walk a0 len0 cap0 z0 W w0 htab).mono fun e W' ⟨he, hg⟩ => ?_
  subst he
  exact ⟨_, rfl, _, _, _, [], _, [], hW', trodAll_mk1 (shut_bool Tryd.underlying4 _), (trodAll_cons_mk (Below.trod laidOut (by kernel_rfl) (of_decide_eq_true (by kernel_rfl)) k0 hg lt0) trodAll_mk0), rfl, hg.frame _, fun h => by cases h⟩

theorem over : Rows.FnIntegerEncodingsSaid :=
  OpenClaim.holds_of_wide 3 Tryd.f3 rfl rfl rfl rfl rfl rfl rfl ⟨rfl, rfl, rfl, rfl, rfl⟩ rfl rfl rfl rfl rfl (by kernel_rfl) Tryd.func3 (by kernel_rfl)
    (of_decide_eq_true (by kernel_rfl)) (by unfold Func.isWrapper; first | (rw [if_pos (by decide +kernel)]; kernel_rfl) | (rw [if_neg (by decide +kernel)]; exact ⟨rfl, rfl⟩))
    (fun os started H enc _ => lifted os started H enc)

theorem proved : Rows.FnIntegerEncodingsCardSaid :=
  Claim7.holds_tied_plain_at .later [] [.data, .data, .data] true (true, "d1a4e900c95375bd28a434ffb575b13d606170b003f5bdac301b19a078807e7e") false
    over (fun _ h => by cases h) (by kernel_rfl) (fun _ h => by cases h) fnIntegerEncodings_row_tie rfl ⟨rfl, rfl⟩ (by kernel_rfl) rfl
    (fun f fn hf hfn => by
      obtain rfl : f = 3 := Option.some.inj ((show Tryd.prog.funcNamed "loop.example/g02075/laws.FnIntegerEncodings" = some 3 by kernel_rfl).symm.trans hf) |>.symm
      obtain rfl : fn = Tryd.f3 := (Option.some.inj (Tryd.func3.symm.trans hfn)).symm
      exact ⟨by kernel_rfl, fun j t ht => by
        rw [Tryd.params3] at ht
        have hm : t ∈ [22] := by simpa using Array.mem_of_getElem? ht
        have hall : ([22].all fun u => !Tryd.prog.wantsStandIn u) = true := by kernel_rfl
        exact (show Tryd.prog.wantsStandIn t = false by simpa using List.all_eq_true.1 hall t hm)⟩)
    (by kernel_rfl)
#print axioms proved
end Go.Proofs.YtdacfnoemjleiaaDoor.fnIntegerEncodings
