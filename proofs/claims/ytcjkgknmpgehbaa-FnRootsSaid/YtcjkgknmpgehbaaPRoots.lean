/- For every slice of bytes, laws.FnRoots returns true and leaves its argument as it is: roots and commuting words, at the words drawn from the bytes. Conditions: none beyond the row's. -/
import Derived.Test.YtcjkgknmpgehbaaSN2
import Derived.Test.YtcjkgknmpgehbaaWPN
import Derived.WalkKit
import Derived.ProofKit
import Derived.OpenShut
import Derived.ShutString
import Derived.Below
namespace Go.Proofs.Ytcjkgknmpgehbaa.fnRoots
open Go.ChangeShapes Go.WideShapes Go.ChangeAt Go.RowKit
open Go.ChangeMaps (open_string shut_string)
set_option linter.unusedVariables false

theorem own : ownKnob Try.prog.godebug = none := by kernel_rfl

theorem laidOut : laidOutB Try.prog = true := by kernel_rfl
set_option maxHeartbeats 12800000 in
set_option maxRecDepth 100000 in
theorem walk0 (w : World) (a : Option Addr) (len cap : Nat) (hcode : CodeIn w.heap.size w a len) (hcap : len ≤ cap) :
    Calls Try.prog 4 #[.slice a len cap] w fun e w' => e = .returned (.bool true) ∧ Below w.heap.size w w' := by
  have hlen := hcode.1
  replace hcode := hidI hcode
  have hb0 := Below.refl w.heap.size w
  go_enter Try.func4, Try.ntmps4
  go_wp2_with fail
  refine (big_no _ a len cap hlen).mono ?_
  rintro e w0 ⟨rfl, rfl⟩
  go_wp2_with fail
  refine (drawRoot_any w a len cap hcode.out).mono ?_
  rintro e w1 ⟨vd0, D0, pd0, rfl, hd0, hbn⟩
  have id0 : InR D0 := pd0.inR
  have ld0 : D0.length ≤ 20 := pd0.2
  replace id0 := hidI id0
  replace ld0 := hidI ld0
  replace pd0 := hidI pd0
  replace hd0 := hidI hd0
  have hb1 := hb0.trans (hbn.mono hb0.size)
  replace hcode := hidI (codeIn_mono (hcode.out.below hbn) hbn.size)
  clear hbn
  obtain ⟨W0, ecw⟩ : ∃ F, F = redL D0 := ⟨_, rfl⟩
  have icw : InR W0 := by rw [ecw]; exact redL_in id0.out
  have lcw : W0.length ≤ 20 := by rw [ecw]; have := redL_length D0; have := ld0.out; omega
  replace icw := hidI icw
  replace lcw := hidI lcw
  replace ecw := hidI ecw
  go_wp2_with fail
  refine (specRed w1 vd0 D0 hd0.out (by have := ld0.out; omega)).mono ?_
  rw [← ecw.out]
  rintro e w2 ⟨vcw, rfl, hrow, hbn⟩
  have hcw := hidI hrow.read
  clear hrow
  have hb2 := hb1.trans (hbn.mono hb1.size)
  replace hd0 := hidI ((hd0.out.below hbn).mono hbn.size)
  replace hcode := hidI (codeIn_mono (hcode.out.below hbn) hbn.size)
  clear hbn hb1
  clear hd0
  have gw : Good W0 := by rw [ecw.out]; exact pd0.out.good.red
  have rw0 : redL W0 = W0 := by rw [ecw.out]; exact redL_redL id0.out
  obtain ⟨R0, err⟩ : ∃ F, F = (rootL W0).1 := ⟨_, rfl⟩
  have irr : InR R0 := by rw [err]; exact rootL_in icw.out
  have lrr : R0.length ≤ 60 := by rw [err]; have := rootL_length W0; have := lcw.out; omega
  replace irr := hidI irr
  replace lrr := hidI lrr
  replace err := hidI err
  obtain ⟨kk, hkk⟩ : ∃ k, k = (rootL W0).2 := ⟨_, rfl⟩
  have hkb := rootL_bd W0
  rw [← hkk] at hkb
  obtain ⟨hkb0, hkb1⟩ := hkb
  have hkb2 : kk ≤ 20 := by have := lcw.out; omega
  have hkne : (kk != kk) = false := by simp
  have hcase : (W0 = [] ∧ kk = 0) ∨ (0 < kk ∧ powL R0 kk = W0 ∧ (rootL R0).2 = 1) := by
    by_cases h : W0 = []
    · left; exact ⟨h, by rw [hkk, h]; rfl⟩
    · right
      obtain ⟨h1, h2, h3⟩ := root_pow gw rw0 h
      rw [← hkk] at h1 h2
      rw [← err.out] at h2 h3
      exact ⟨h1, h2 (by omega), h3⟩
  replace gw := hidI gw
  replace rw0 := hidI rw0
  replace hcase := hidI hcase
  replace hkk := hidI hkk
  go_wp2_with fail
  refine (iRoot w2 vcw W0 hcw.out (by have := lcw.out; omega)).mono ?_
  rw [← err.out, ← hkk.out]
  rintro e w3 ⟨vrr, rfl, hrow, hbn⟩
  have hrr := hidI hrow.read
  clear hrow
  have hb3 := hb2.trans (hbn.mono hb2.size)
  replace hcw := hidI ((hcw.out.below hbn).mono hbn.size)
  replace hcode := hidI (codeIn_mono (hcode.out.below hbn) hbn.size)
  clear hbn hb2
  go_wp2_with fail
  refine (specRoot w3 vcw W0 hcw.out (by have := lcw.out; omega)).mono ?_
  rw [← err.out, ← hkk.out]
  rintro e w4 ⟨vrs, rfl, hrow, hbn⟩
  have hrs := hidI hrow.read
  clear hrow
  have hb4 := hb3.trans (hbn.mono hb3.size)
  replace hcw := hidI ((hcw.out.below hbn).mono hbn.size)
  replace hrr := hidI ((hrr.out.below hbn).mono hbn.size)
  replace hcode := hidI (codeIn_mono (hcode.out.below hbn) hbn.size)
  clear hbn hb3
  go_wp2_with fail
  refine (sameInts_law w4 vrr vrs R0 hrr.out hrs.out).mono ?_
  rintro e w5 ⟨rfl, hbn, hsz5⟩
  have hb5 := hb4.trans (hbn.mono hb4.size)
  replace hcw := hidI ((hcw.out.below hbn).mono hbn.size)
  replace hrr := hidI ((hrr.out.below hbn).mono hbn.size)
  replace hrs := hidI ((hrs.out.below hbn).mono hbn.size)
  replace hcode := hidI (codeIn_mono (hcode.out.below hbn) hbn.size)
  clear hbn hb4
  clear hrs
  obtain ⟨pb, hpb⟩ : ∃ b, b = decide (1 < kk) := ⟨_, rfl⟩
  have hpbe : decide (1 < kk) = pb := hpb.symm
  have hpbn : (pb != pb) = false := by simp
  have hpb2 : decide (1 < (rootL W0).2) = pb := by rw [← hkk.out]; exact hpbe
  replace hpb := hidI hpb
  replace hpb2 := hidI hpb2
  go_wp2_with fail
  refine (iProper w5 vcw W0 hcw.out (by have := lcw.out; omega)).mono ?_
  rw [hpb2.out]
  rintro e w6 ⟨rfl, hbn⟩
  have hb6 := hb5.trans (hbn.mono hb5.size)
  replace hcw := hidI ((hcw.out.below hbn).mono hbn.size)
  replace hrr := hidI ((hrr.out.below hbn).mono hbn.size)
  replace hcode := hidI (codeIn_mono (hcode.out.below hbn) hbn.size)
  clear hbn hb5
  rcases hcase.out with ⟨hc1, hc2⟩ | ⟨hc1, hc2, hc3⟩
  · skip
    have hk0 : ¬ 0 < kk := by omega
    have hk0f : decide (0 < kk) = false := by simp; omega
    replace hc1 := hidI hc1
    replace hc2 := hidI hc2
    clear hrr
    clear hcw
    go_wp2_with fail
    refine (drawComm_any w6 a len cap hcode.out).mono ?_
    rintro e w7 ⟨vka, vkb, A0, B0, pka, pkb, rfl, hka, hkb, hbn⟩
    have ika : InR A0 := pka.inR
    have lka : A0.length ≤ 200 := pka.2
    replace ika := hidI ika
    replace lka := hidI lka
    replace pka := hidI pka
    replace hka := hidI hka
    have ikb : InR B0 := pkb.inR
    have lkb : B0.length ≤ 200 := pkb.2
    replace ikb := hidI ikb
    replace lkb := hidI lkb
    replace pkb := hidI pkb
    replace hkb := hidI hkb
    have hb7 := hb6.trans (hbn.mono hb6.size)
    replace hcode := hidI (codeIn_mono (hcode.out.below hbn) hbn.size)
    clear hbn hb6
    obtain ⟨cb, hcb⟩ : ∃ b, b = decide (mulL A0 B0 = mulL B0 A0) := ⟨_, rfl⟩
    have hcbn : (cb != cb) = false := by simp
    have hci := fun ha hb => comm_iff pka.out.good pkb.out.good ha hb
    have hcx : redL A0 = [] ∨ redL B0 = [] → cb = true := by
      intro h
      rw [hcb, decide_eq_true_eq]
      unfold mulL
      rw [← redL_append_red ika.out ikb.out, ← redL_append_red ikb.out ika.out]
      rcases h with h | h <;> rw [h] <;> simp
    replace hcb := hidI hcb
    replace hci := hidI hci
    replace hcx := hidI hcx
    go_wp2_with fail
    refine (iComm w7 vka vkb A0 B0 hka.out hkb.out (by have := lka.out; omega) (by have := lkb.out; omega)).mono ?_
    rw [← hcb.out]
    rintro e w8 ⟨rfl, hbn⟩
    have hb8 := hb7.trans (hbn.mono hb7.size)
    replace hka := hidI ((hka.out.below hbn).mono hbn.size)
    replace hkb := hidI ((hkb.out.below hbn).mono hbn.size)
    replace hcode := hidI (codeIn_mono (hcode.out.below hbn) hbn.size)
    clear hbn hb7
    go_wp2_with fail
    refine (specComm w8 vka vkb A0 B0 hka.out hkb.out (by have := lka.out; omega) (by have := lkb.out; omega)).mono ?_
    rw [← hcb.out]
    rintro e w9 ⟨rfl, hbn⟩
    have hb9 := hb8.trans (hbn.mono hb8.size)
    replace hka := hidI ((hka.out.below hbn).mono hbn.size)
    replace hkb := hidI ((hkb.out.below hbn).mono hbn.size)
    replace hcode := hidI (codeIn_mono (hcode.out.below hbn) hbn.size)
    clear hbn hb8
    obtain ⟨X0, ex⟩ : ∃ F, F = redL A0 := ⟨_, rfl⟩
    have ix : InR X0 := by rw [ex]; exact redL_in ika.out
    have lx : X0.length ≤ 200 := by rw [ex]; have := redL_length A0; have := lka.out; omega
    replace ix := hidI ix
    replace lx := hidI lx
    replace ex := hidI ex
    go_wp2_with fail
    refine (specRed w9 vka A0 hka.out (by have := lka.out; omega)).mono ?_
    rw [← ex.out]
    intro e w10 hr9
    obtain ⟨ax, nx, cx, rfl, hrow, hnx, hbn⟩ := hr9.form
    clear hr9
    have hx := hidI hrow.read
    clear hrow
    replace hnx := hidI hnx
    have hnlx : nx ≤ 200 := by have := lx.out; have := hnx.out; omega
    have hb10 := hb9.trans (hbn.mono hb9.size)
    replace hka := hidI ((hka.out.below hbn).mono hbn.size)
    replace hkb := hidI ((hkb.out.below hbn).mono hbn.size)
    replace hcode := hidI (codeIn_mono (hcode.out.below hbn) hbn.size)
    clear hbn hb9
    obtain ⟨Y0, ey⟩ : ∃ F, F = redL B0 := ⟨_, rfl⟩
    have iy : InR Y0 := by rw [ey]; exact redL_in ikb.out
    have ly : Y0.length ≤ 200 := by rw [ey]; have := redL_length B0; have := lkb.out; omega
    replace iy := hidI iy
    replace ly := hidI ly
    replace ey := hidI ey
    go_wp2_with fail
    refine (specRed w10 vkb B0 hkb.out (by have := lkb.out; omega)).mono ?_
    rw [← ey.out]
    intro e w11 hr9
    obtain ⟨ay, ny, cy, rfl, hrow, hny, hbn⟩ := hr9.form
    clear hr9
    have hy := hidI hrow.read
    clear hrow
    replace hny := hidI hny
    have hnly : ny ≤ 200 := by have := ly.out; have := hny.out; omega
    have hb11 := hb10.trans (hbn.mono hb10.size)
    replace hka := hidI ((hka.out.below hbn).mono hbn.size)
    replace hkb := hidI ((hkb.out.below hbn).mono hbn.size)
    replace hx := hidI ((hx.out.below hbn).mono hbn.size)
    replace hcode := hidI (codeIn_mono (hcode.out.below hbn) hbn.size)
    clear hbn hb10
    clear hka
    clear hkb
    by_cases hx0 : nx = 0
    · have hcbt : cb = true := hcx.out (.inl (by rw [← ex.out]; exact List.length_eq_zero_iff.1 (by have := hnx.out; omega)))
      subst hx0
      subst hcbt
      go_wp2_with fail
      go_ret
      exact ⟨rfl, hb11⟩
    have hx0f : ((nx : Int) == 0) = false := by rw [beq_eq_false_iff_ne]; omega
    by_cases hy0 : ny = 0
    · have hcbt : cb = true := hcx.out (.inr (by rw [← ey.out]; exact List.length_eq_zero_iff.1 (by have := hny.out; omega)))
      subst hy0
      subst hcbt
      go_wp2_with fail
      go_ret
      exact ⟨rfl, hb11⟩
    have hy0f : ((ny : Int) == 0) = false := by rw [beq_eq_false_iff_ne]; omega
    have hcom := hci.out (by rw [← ex.out]; intro e; rw [e] at hnx; exact hx0 hnx.out) (by rw [← ey.out]; intro e; rw [e] at hny; exact hy0 hny.out)
    rw [← ex.out, ← ey.out] at hcom
    obtain ⟨P0, ep⟩ : ∃ F, F = (rootL X0).1 := ⟨_, rfl⟩
    have ip : InR P0 := by rw [ep]; exact rootL_in ix.out
    have lp : P0.length ≤ 600 := by rw [ep]; have := rootL_length X0; have := lx.out; omega
    replace ip := hidI ip
    replace lp := hidI lp
    replace ep := hidI ep
    obtain ⟨Q0, eq⟩ : ∃ F, F = (rootL Y0).1 := ⟨_, rfl⟩
    have iq : InR Q0 := by rw [eq]; exact rootL_in iy.out
    have lq : Q0.length ≤ 600 := by rw [eq]; have := rootL_length Y0; have := ly.out; omega
    replace iq := hidI iq
    replace lq := hidI lq
    replace eq := hidI eq
    rw [← ep.out, ← eq.out] at hcom
    obtain ⟨Z0, ez⟩ : ∃ F, F = invL Q0 := ⟨_, rfl⟩
    have iz : InR Z0 := by rw [ez]; exact InR.invL
    have lz : Z0.length ≤ 600 := by rw [ez]; rw [invL_length]; exact lq.out
    replace iz := hidI iz
    replace lz := hidI lz
    replace ez := hidI ez
    rw [← ez.out] at hcom
    have hfin : cb = (decide (P0 = Q0) || decide (P0 = Z0)) := by rw [hcb.out, Bool.eq_iff_iff, Bool.or_eq_true, decide_eq_true_eq, decide_eq_true_eq, decide_eq_true_eq]; exact hcom
    obtain ⟨b1, hb1'⟩ : ∃ b, b = decide (P0 = Q0) := ⟨_, rfl⟩
    obtain ⟨b2, hb2'⟩ : ∃ b, b = decide (P0 = Z0) := ⟨_, rfl⟩
    rw [← hb1', ← hb2'] at hfin
    subst hfin
    replace hcom := hidI hcom
    replace hb1' := hidI hb1'
    replace hb2' := hidI hb2'
    replace hcb := hidI hcb
    go_wp2_with fail
    refine (specRoot w11 _ X0 hx.out (by have := lx.out; omega)).mono ?_
    rw [← ep.out]
    rintro e w12 ⟨vp, rfl, hrow, hbn⟩
    have hp := hidI hrow.read
    clear hrow
    have hb12 := hb11.trans (hbn.mono hb11.size)
    replace hx := hidI ((hx.out.below hbn).mono hbn.size)
    replace hy := hidI ((hy.out.below hbn).mono hbn.size)
    replace hcode := hidI (codeIn_mono (hcode.out.below hbn) hbn.size)
    clear hbn hb11
    go_wp2_with fail
    refine (specRoot w12 _ Y0 hy.out (by have := ly.out; omega)).mono ?_
    rw [← eq.out]
    rintro e w13 ⟨vq, rfl, hrow, hbn⟩
    have hq := hidI hrow.read
    clear hrow
    have hb13 := hb12.trans (hbn.mono hb12.size)
    replace hx := hidI ((hx.out.below hbn).mono hbn.size)
    replace hy := hidI ((hy.out.below hbn).mono hbn.size)
    replace hp := hidI ((hp.out.below hbn).mono hbn.size)
    replace hcode := hidI (codeIn_mono (hcode.out.below hbn) hbn.size)
    clear hbn hb12
    clear hx
    clear hy
    go_wp2_with fail
    refine (sameInts_any w13 w13.heap.size vp vq P0 Q0 hp.out hq.out).mono ?_
    rw [← hb1'.out]
    rintro e w14 ⟨rfl, nq, hwq⟩
    have hbn : Below w13.heap.size w13 w14 := by rw [hwq]; exact below_dn (Below.refl _ _) nq
    clear hwq
    have hb14 := hb13.trans (hbn.mono hb13.size)
    replace hp := hidI ((hp.out.below hbn).mono hbn.size)
    replace hq := hidI ((hq.out.below hbn).mono hbn.size)
    replace hcode := hidI (codeIn_mono (hcode.out.below hbn) hbn.size)
    clear hbn hb13
    cases b1 with
    | true =>
      go_wp2_with fail
      go_ret
      exact ⟨rfl, hb14⟩
    | false =>
      go_wp2_with fail
      refine (specInv w14 vq Q0 hq.out (by have := lq.out; omega)).mono ?_
      rw [← ez.out]
      rintro e w15 ⟨vz, rfl, hrow, hbn⟩
      have hz := hidI hrow.read
      clear hrow
      have hb15 := hb14.trans (hbn.mono hb14.size)
      replace hp := hidI ((hp.out.below hbn).mono hbn.size)
      replace hq := hidI ((hq.out.below hbn).mono hbn.size)
      replace hcode := hidI (codeIn_mono (hcode.out.below hbn) hbn.size)
      clear hbn hb14
      have hbb2 : (b2 == b2) = true := by simp
      go_wp2_with fail
      refine (sameInts_any w15 w15.heap.size vp vz P0 Z0 hp.out hz.out).mono ?_
      rw [← hb2'.out]
      rintro e w16 ⟨rfl, nq, hwq⟩
      have hbn : Below w15.heap.size w15 w16 := by rw [hwq]; exact below_dn (Below.refl _ _) nq
      clear hwq
      have hb16 := hb15.trans (hbn.mono hb15.size)
      replace hp := hidI ((hp.out.below hbn).mono hbn.size)
      replace hq := hidI ((hq.out.below hbn).mono hbn.size)
      replace hz := hidI ((hz.out.below hbn).mono hbn.size)
      replace hcode := hidI (codeIn_mono (hcode.out.below hbn) hbn.size)
      clear hbn hb15
      go_wp2_with fail
      go_ret
      exact ⟨rfl, hb16⟩
  · skip
    have hk0f : decide (0 < kk) = true := by simp; omega
    have hk24 : decide (kk ≤ 24) = true := by simp; omega
    have hc4 : decide (1 < (rootL R0).2) = false := by rw [hc3]; rfl
    replace hc2 := hidI hc2
    replace hc3 := hidI hc3
    replace hc4 := hidI hc4
    go_wp2_with fail
    refine (specPowAny w6 vrr R0 kk hrr.out (by have := lrr.out; omega) (by omega) (by omega)).mono ?_
    rw [hc2.out]
    rintro e w7 ⟨vpw, rfl, hrow, hbn⟩
    have hpw := hidI hrow.read
    clear hrow
    have hb7 := hb6.trans (hbn.mono hb6.size)
    replace hcw := hidI ((hcw.out.below hbn).mono hbn.size)
    replace hrr := hidI ((hrr.out.below hbn).mono hbn.size)
    replace hcode := hidI (codeIn_mono (hcode.out.below hbn) hbn.size)
    clear hbn hb6
    go_wp2_with fail
    refine (sameInts_law w7 vpw vcw W0 hpw.out hcw.out).mono ?_
    rintro e w8 ⟨rfl, hbn, hsz8⟩
    have hb8 := hb7.trans (hbn.mono hb7.size)
    replace hcw := hidI ((hcw.out.below hbn).mono hbn.size)
    replace hrr := hidI ((hrr.out.below hbn).mono hbn.size)
    replace hpw := hidI ((hpw.out.below hbn).mono hbn.size)
    replace hcode := hidI (codeIn_mono (hcode.out.below hbn) hbn.size)
    clear hbn hb7
    clear hpw
    go_wp2_with fail
    refine (iProper w8 vrr R0 hrr.out (by have := lrr.out; omega)).mono ?_
    rw [hc4.out]
    rintro e w9 ⟨rfl, hbn⟩
    have hb9 := hb8.trans (hbn.mono hb8.size)
    replace hcw := hidI ((hcw.out.below hbn).mono hbn.size)
    replace hrr := hidI ((hrr.out.below hbn).mono hbn.size)
    replace hcode := hidI (codeIn_mono (hcode.out.below hbn) hbn.size)
    clear hbn hb8
    clear hrr
    clear hcw
    go_wp2_with fail
    refine (drawComm_any w9 a len cap hcode.out).mono ?_
    rintro e w10 ⟨vka, vkb, A0, B0, pka, pkb, rfl, hka, hkb, hbn⟩
    have ika : InR A0 := pka.inR
    have lka : A0.length ≤ 200 := pka.2
    replace ika := hidI ika
    replace lka := hidI lka
    replace pka := hidI pka
    replace hka := hidI hka
    have ikb : InR B0 := pkb.inR
    have lkb : B0.length ≤ 200 := pkb.2
    replace ikb := hidI ikb
    replace lkb := hidI lkb
    replace pkb := hidI pkb
    replace hkb := hidI hkb
    have hb10 := hb9.trans (hbn.mono hb9.size)
    replace hcode := hidI (codeIn_mono (hcode.out.below hbn) hbn.size)
    clear hbn hb9
    obtain ⟨cb, hcb⟩ : ∃ b, b = decide (mulL A0 B0 = mulL B0 A0) := ⟨_, rfl⟩
    have hcbn : (cb != cb) = false := by simp
    have hci := fun ha hb => comm_iff pka.out.good pkb.out.good ha hb
    have hcx : redL A0 = [] ∨ redL B0 = [] → cb = true := by
      intro h
      rw [hcb, decide_eq_true_eq]
      unfold mulL
      rw [← redL_append_red ika.out ikb.out, ← redL_append_red ikb.out ika.out]
      rcases h with h | h <;> rw [h] <;> simp
    replace hcb := hidI hcb
    replace hci := hidI hci
    replace hcx := hidI hcx
    go_wp2_with fail
    refine (iComm w10 vka vkb A0 B0 hka.out hkb.out (by have := lka.out; omega) (by have := lkb.out; omega)).mono ?_
    rw [← hcb.out]
    rintro e w11 ⟨rfl, hbn⟩
    have hb11 := hb10.trans (hbn.mono hb10.size)
    replace hka := hidI ((hka.out.below hbn).mono hbn.size)
    replace hkb := hidI ((hkb.out.below hbn).mono hbn.size)
    replace hcode := hidI (codeIn_mono (hcode.out.below hbn) hbn.size)
    clear hbn hb10
    go_wp2_with fail
    refine (specComm w11 vka vkb A0 B0 hka.out hkb.out (by have := lka.out; omega) (by have := lkb.out; omega)).mono ?_
    rw [← hcb.out]
    rintro e w12 ⟨rfl, hbn⟩
    have hb12 := hb11.trans (hbn.mono hb11.size)
    replace hka := hidI ((hka.out.below hbn).mono hbn.size)
    replace hkb := hidI ((hkb.out.below hbn).mono hbn.size)
    replace hcode := hidI (codeIn_mono (hcode.out.below hbn) hbn.size)
    clear hbn hb11
    obtain ⟨X0, ex⟩ : ∃ F, F = redL A0 := ⟨_, rfl⟩
    have ix : InR X0 := by rw [ex]; exact redL_in ika.out
    have lx : X0.length ≤ 200 := by rw [ex]; have := redL_length A0; have := lka.out; omega
    replace ix := hidI ix
    replace lx := hidI lx
    replace ex := hidI ex
    go_wp2_with fail
    refine (specRed w12 vka A0 hka.out (by have := lka.out; omega)).mono ?_
    rw [← ex.out]
    intro e w13 hr9
    obtain ⟨ax, nx, cx, rfl, hrow, hnx, hbn⟩ := hr9.form
    clear hr9
    have hx := hidI hrow.read
    clear hrow
    replace hnx := hidI hnx
    have hnlx : nx ≤ 200 := by have := lx.out; have := hnx.out; omega
    have hb13 := hb12.trans (hbn.mono hb12.size)
    replace hka := hidI ((hka.out.below hbn).mono hbn.size)
    replace hkb := hidI ((hkb.out.below hbn).mono hbn.size)
    replace hcode := hidI (codeIn_mono (hcode.out.below hbn) hbn.size)
    clear hbn hb12
    obtain ⟨Y0, ey⟩ : ∃ F, F = redL B0 := ⟨_, rfl⟩
    have iy : InR Y0 := by rw [ey]; exact redL_in ikb.out
    have ly : Y0.length ≤ 200 := by rw [ey]; have := redL_length B0; have := lkb.out; omega
    replace iy := hidI iy
    replace ly := hidI ly
    replace ey := hidI ey
    go_wp2_with fail
    refine (specRed w13 vkb B0 hkb.out (by have := lkb.out; omega)).mono ?_
    rw [← ey.out]
    intro e w14 hr9
    obtain ⟨ay, ny, cy, rfl, hrow, hny, hbn⟩ := hr9.form
    clear hr9
    have hy := hidI hrow.read
    clear hrow
    replace hny := hidI hny
    have hnly : ny ≤ 200 := by have := ly.out; have := hny.out; omega
    have hb14 := hb13.trans (hbn.mono hb13.size)
    replace hka := hidI ((hka.out.below hbn).mono hbn.size)
    replace hkb := hidI ((hkb.out.below hbn).mono hbn.size)
    replace hx := hidI ((hx.out.below hbn).mono hbn.size)
    replace hcode := hidI (codeIn_mono (hcode.out.below hbn) hbn.size)
    clear hbn hb13
    clear hka
    clear hkb
    by_cases hx0 : nx = 0
    · have hcbt : cb = true := hcx.out (.inl (by rw [← ex.out]; exact List.length_eq_zero_iff.1 (by have := hnx.out; omega)))
      subst hx0
      subst hcbt
      go_wp2_with fail
      go_ret
      exact ⟨rfl, hb14⟩
    have hx0f : ((nx : Int) == 0) = false := by rw [beq_eq_false_iff_ne]; omega
    by_cases hy0 : ny = 0
    · have hcbt : cb = true := hcx.out (.inr (by rw [← ey.out]; exact List.length_eq_zero_iff.1 (by have := hny.out; omega)))
      subst hy0
      subst hcbt
      go_wp2_with fail
      go_ret
      exact ⟨rfl, hb14⟩
    have hy0f : ((ny : Int) == 0) = false := by rw [beq_eq_false_iff_ne]; omega
    have hcom := hci.out (by rw [← ex.out]; intro e; rw [e] at hnx; exact hx0 hnx.out) (by rw [← ey.out]; intro e; rw [e] at hny; exact hy0 hny.out)
    rw [← ex.out, ← ey.out] at hcom
    obtain ⟨P0, ep⟩ : ∃ F, F = (rootL X0).1 := ⟨_, rfl⟩
    have ip : InR P0 := by rw [ep]; exact rootL_in ix.out
    have lp : P0.length ≤ 600 := by rw [ep]; have := rootL_length X0; have := lx.out; omega
    replace ip := hidI ip
    replace lp := hidI lp
    replace ep := hidI ep
    obtain ⟨Q0, eq⟩ : ∃ F, F = (rootL Y0).1 := ⟨_, rfl⟩
    have iq : InR Q0 := by rw [eq]; exact rootL_in iy.out
    have lq : Q0.length ≤ 600 := by rw [eq]; have := rootL_length Y0; have := ly.out; omega
    replace iq := hidI iq
    replace lq := hidI lq
    replace eq := hidI eq
    rw [← ep.out, ← eq.out] at hcom
    obtain ⟨Z0, ez⟩ : ∃ F, F = invL Q0 := ⟨_, rfl⟩
    have iz : InR Z0 := by rw [ez]; exact InR.invL
    have lz : Z0.length ≤ 600 := by rw [ez]; rw [invL_length]; exact lq.out
    replace iz := hidI iz
    replace lz := hidI lz
    replace ez := hidI ez
    rw [← ez.out] at hcom
    have hfin : cb = (decide (P0 = Q0) || decide (P0 = Z0)) := by rw [hcb.out, Bool.eq_iff_iff, Bool.or_eq_true, decide_eq_true_eq, decide_eq_true_eq, decide_eq_true_eq]; exact hcom
    obtain ⟨b1, hb1'⟩ : ∃ b, b = decide (P0 = Q0) := ⟨_, rfl⟩
    obtain ⟨b2, hb2'⟩ : ∃ b, b = decide (P0 = Z0) := ⟨_, rfl⟩
    rw [← hb1', ← hb2'] at hfin
    subst hfin
    replace hcom := hidI hcom
    replace hb1' := hidI hb1'
    replace hb2' := hidI hb2'
    replace hcb := hidI hcb
    go_wp2_with fail
    refine (specRoot w14 _ X0 hx.out (by have := lx.out; omega)).mono ?_
    rw [← ep.out]
    rintro e w15 ⟨vp, rfl, hrow, hbn⟩
    have hp := hidI hrow.read
    clear hrow
    have hb15 := hb14.trans (hbn.mono hb14.size)
    replace hx := hidI ((hx.out.below hbn).mono hbn.size)
    replace hy := hidI ((hy.out.below hbn).mono hbn.size)
    replace hcode := hidI (codeIn_mono (hcode.out.below hbn) hbn.size)
    clear hbn hb14
    go_wp2_with fail
    refine (specRoot w15 _ Y0 hy.out (by have := ly.out; omega)).mono ?_
    rw [← eq.out]
    rintro e w16 ⟨vq, rfl, hrow, hbn⟩
    have hq := hidI hrow.read
    clear hrow
    have hb16 := hb15.trans (hbn.mono hb15.size)
    replace hx := hidI ((hx.out.below hbn).mono hbn.size)
    replace hy := hidI ((hy.out.below hbn).mono hbn.size)
    replace hp := hidI ((hp.out.below hbn).mono hbn.size)
    replace hcode := hidI (codeIn_mono (hcode.out.below hbn) hbn.size)
    clear hbn hb15
    clear hx
    clear hy
    go_wp2_with fail
    refine (sameInts_any w16 w16.heap.size vp vq P0 Q0 hp.out hq.out).mono ?_
    rw [← hb1'.out]
    rintro e w17 ⟨rfl, nq, hwq⟩
    have hbn : Below w16.heap.size w16 w17 := by rw [hwq]; exact below_dn (Below.refl _ _) nq
    clear hwq
    have hb17 := hb16.trans (hbn.mono hb16.size)
    replace hp := hidI ((hp.out.below hbn).mono hbn.size)
    replace hq := hidI ((hq.out.below hbn).mono hbn.size)
    replace hcode := hidI (codeIn_mono (hcode.out.below hbn) hbn.size)
    clear hbn hb16
    cases b1 with
    | true =>
      go_wp2_with fail
      go_ret
      exact ⟨rfl, hb17⟩
    | false =>
      go_wp2_with fail
      refine (specInv w17 vq Q0 hq.out (by have := lq.out; omega)).mono ?_
      rw [← ez.out]
      rintro e w18 ⟨vz, rfl, hrow, hbn⟩
      have hz := hidI hrow.read
      clear hrow
      have hb18 := hb17.trans (hbn.mono hb17.size)
      replace hp := hidI ((hp.out.below hbn).mono hbn.size)
      replace hq := hidI ((hq.out.below hbn).mono hbn.size)
      replace hcode := hidI (codeIn_mono (hcode.out.below hbn) hbn.size)
      clear hbn hb17
      have hbb2 : (b2 == b2) = true := by simp
      go_wp2_with fail
      refine (sameInts_any w18 w18.heap.size vp vz P0 Z0 hp.out hz.out).mono ?_
      rw [← hb2'.out]
      rintro e w19 ⟨rfl, nq, hwq⟩
      have hbn : Below w18.heap.size w18 w19 := by rw [hwq]; exact below_dn (Below.refl _ _) nq
      clear hwq
      have hb19 := hb18.trans (hbn.mono hb18.size)
      replace hp := hidI ((hp.out.below hbn).mono hbn.size)
      replace hq := hidI ((hq.out.below hbn).mono hbn.size)
      replace hz := hidI ((hz.out.below hbn).mono hbn.size)
      replace hcode := hidI (codeIn_mono (hcode.out.below hbn) hbn.size)
      clear hbn hb18
      go_wp2_with fail
      go_ret
      exact ⟨rfl, hb19⟩
theorem walk (W : World) (a0 : Option Addr) (len0 cap0 : Nat) (z0 : List Int) (w0 : IsRow .u8 W a0 len0 cap0 z0) :
    Calls Try.prog 4 #[.slice a0 len0 cap0] W fun e w' => e = .returned (.bool true) ∧ Below W.heap.size W w' := by
  by_cases hbig : 1048576 < len0
  · go_enter Try.func4, Try.ntmps4
    go_wp2_with fail
    refine (big_yes _ a0 len0 cap0 hbig).mono ?_
    rintro e w1 ⟨rfl, rfl⟩
    go_wp2_with fail
    go_ret
    exact ⟨rfl, Below.refl _ _⟩
  · exact walk0 W a0 len0 cap0 (codeIn_row w0 (by omega)) (row_cap w0)

/-! ### The row's step -/
set_option maxRecDepth 100000 in
theorem lifted (os : Os) (started : os.Started) (H : Type) (enc : TypeId × Value → H) :
    ReturnsInHanded {} Try.checked os 4 .any (Rows.fnRootsSpec.pre6 enc Try.prog Try.f4 Rows.fnRootsRow.domain false) (Rows.fnRootsSpec.post enc Try.prog Try.f4 false true false false) := by
  refine returnsInHanded_of_change (C := Try.checked) own started (by kernel_rfl) Try.func4
    (ChangeSpec.witness6 (enc := enc) (C := Try.checked) false ⟨#[], #[.slice none 0 0], []⟩ 8 (by kernel_rfl) (by kernel_rfl) (by kernel_rfl) (by kernel_rfl)) ?_
  intro W base args ds gs before hval0 hW hcnd _
  have hval : ∀ (j : Nat) t v, Try.f4.params[j]? = some t → args[j]? = some v → Value.okWide Try.prog W .any base t v := hval0
  have hW' := hW
  obtain ⟨p, q, hA0, hV, rfl, hfz, hnd⟩ := hW
  have hA : DataW.TrodAll enc Try.prog W 0 (fun _ => true) true Try.f4.params.toList args.toList ds p := hA0
  rw [Try.params4] at hA hval
  obtain ⟨v0, vs0, d0, ds0, p0, q0, hargs, rfl, rfl, h0, r0⟩ := trodAll_cons hA
  obtain ⟨rfl, rfl, rfl⟩ := trodAll_nil r0
  obtain rfl : args = #[v0] := by cases args; simp_all
  obtain ⟨rfl, rfl⟩ := trodVars_none hV
  obtain ⟨a0, len0, cap0, rfl⟩ := okWide_slice Try.underlying22 (hval 0 22 v0 rfl rfl)
  have k0 := h0
  have lt0 : ∀ x ∈ p0, x.block < W.heap.size := by obtain ⟨m, hm⟩ := k0; exact DataW.trod_lt m _ _ _ hm
  obtain ⟨z0, w0⟩ : ∃ zs, IsRow .u8 W a0 len0 cap0 zs := by
    obtain ⟨fuel, hf⟩ := h0
    rcases open_ints Try.underlying22 Try.underlying5 (by kernel_rfl) hf with ⟨hcs, _⟩ | ⟨x, l, c, zs, hcs, _, hl, hm, hz, _, hcell, hwz⟩
    · simp [Value.cells] at hcs
      obtain ⟨rfl, rfl, rfl⟩ := hcs
      exact ⟨[], .inl ⟨rfl, rfl, rfl, rfl⟩⟩
    · simp [Value.cells] at hcs
      obtain ⟨rfl, rfl, rfl⟩ := hcs
      exact ⟨zs, .inr ⟨_, rfl, hl, hm, by simpa using hz, hcell, hwz⟩⟩
  clear hA0 hval0
  refine (walk W a0 len0 cap0 z0 w0).mono fun e W' ⟨he, hg⟩ => ?_
  subst he
  exact ⟨_, rfl, _, _, _, [], _, [], hW', trodAll_mk1 (shut_bool Try.underlying4 _), (trodAll_cons_mk (Below.trod laidOut (by kernel_rfl) (of_decide_eq_true (by kernel_rfl)) k0 hg lt0) trodAll_mk0), rfl, hg.frame _, fun h => by cases h⟩

theorem over : Rows.fnRootsRow.holds Try.pinned (OpenSpec.ofChange Rows.fnRootsSpec) :=
  OpenClaim.holds_of_wide 4 Try.f4 rfl rfl rfl rfl rfl rfl rfl ⟨rfl, rfl, rfl, rfl, rfl⟩ rfl rfl rfl rfl rfl (by kernel_rfl) Try.func4 (by kernel_rfl)
    (of_decide_eq_true (by kernel_rfl)) (by unfold Func.isWrapper; first | (rw [if_pos (by decide +kernel)]; kernel_rfl) | (rw [if_neg (by decide +kernel)]; exact ⟨rfl, rfl⟩))
    (fun os started H enc _ => lifted os started H enc)

theorem proved : Rows.FnRootsSaid := over
#print axioms proved
end Go.Proofs.Ytcjkgknmpgehbaa.fnRoots
