/- For every slice of bytes, laws.FnCyclic returns true and leaves its argument as it is: cores, conjugating words, cyclic forms, at the words drawn from the bytes. Conditions: none beyond the row's. -/
import Derived.Test.YtcjkgknmpgehbaaSN2
import Derived.Test.YtcjkgknmpgehbaaWPN
import Derived.WalkKit
import Derived.ProofKit
import Derived.OpenShut
import Derived.ShutString
import Derived.Below
namespace Go.Proofs.Ytcjkgknmpgehbaa.fnCyclic
open Go.ChangeShapes Go.WideShapes Go.ChangeAt Go.RowKit
open Go.ChangeMaps (open_string shut_string)
set_option linter.unusedVariables false

theorem own : ownKnob Try.prog.godebug = none := by kernel_rfl

theorem laidOut : laidOutB Try.prog = true := by kernel_rfl
set_option maxHeartbeats 12800000 in
set_option maxRecDepth 100000 in
theorem walk0 (w : World) (a : Option Addr) (len cap : Nat) (hcode : CodeIn w.heap.size w a len) (hcap : len ≤ cap) :
    Calls Try.prog 3 #[.slice a len cap] w fun e w' => e = .returned (.bool true) ∧ Below w.heap.size w w' := by
  have hlen := hcode.1
  replace hcode := hidI hcode
  have hb0 := Below.refl w.heap.size w
  go_enter Try.func3, Try.ntmps3
  go_wp2_with fail
  refine (big_no _ a len cap hlen).mono ?_
  rintro e w0 ⟨rfl, rfl⟩
  go_wp2_with fail
  refine (drawCore_any w a len cap hcode.out).mono ?_
  rintro e w1 ⟨vcw, W0, pcw, rfl, hcw, hbn⟩
  have icw : InR W0 := pcw.inR
  have lcw : W0.length ≤ 20 := pcw.2
  replace icw := hidI icw
  replace lcw := hidI lcw
  replace pcw := hidI pcw
  replace hcw := hidI hcw
  have hb1 := hb0.trans (hbn.mono hb0.size)
  replace hcode := hidI (codeIn_mono (hcode.out.below hbn) hbn.size)
  clear hbn
  obtain ⟨C, ecc⟩ : ∃ F, F = (coreL W0).1 := ⟨_, rfl⟩
  have icc : InR C := by rw [ecc]; exact (coreL_in icw.out).1
  have lcc : C.length ≤ 20 := by rw [ecc]; have := (coreL_length W0).1; have := lcw.out; omega
  replace icc := hidI icc
  replace lcc := hidI lcc
  replace ecc := hidI ecc
  obtain ⟨P, ecp⟩ : ∃ F, F = (coreL W0).2 := ⟨_, rfl⟩
  have icp : InR P := by rw [ecp]; exact (coreL_in icw.out).2
  have lcp : P.length ≤ 20 := by rw [ecp]; have := (coreL_length W0).2; have := lcw.out; omega
  replace icp := hidI icp
  replace lcp := hidI lcp
  replace ecp := hidI ecp
  go_wp2_with fail
  refine (iCore w1 vcw W0 hcw.out (by have := lcw.out; omega)).mono ?_
  rw [← ecc.out, ← ecp.out]
  rintro e w2 ⟨vcc, vcp, q1, q2, q3, q4, rfl, hrow, hrow2, k1, k2, k3, k4, k5, hbn⟩
  have hcc := hidI (hrow.read.mono k2)
  have hcp := hidI (hrow2.read.mono k4)
  clear hrow hrow2 k1 k2 k3 k4 k5
  have hb2 := hb1.trans (hbn.mono hb1.size)
  replace hcw := hidI ((hcw.out.below hbn).mono hbn.size)
  replace hcode := hidI (codeIn_mono (hcode.out.below hbn) hbn.size)
  clear hbn hb1
  go_wp2_with fail
  refine (specCore w2 vcw W0 hcw.out (by have := lcw.out; omega)).mono ?_
  rw [← ecc.out, ← ecp.out]
  intro e w3 hr9
  obtain ⟨xa, n9, xc, pa, m9, pc, rfl, hrow, hrow2, hn9, hm9, hnc9, hbn⟩ := hr9.both
  clear hr9
  have hcd := hidI hrow.read
  have hcq := hidI hrow2.read
  clear hrow hrow2
  obtain ⟨vcd, hvcd⟩ : ∃ v, v = Value.slice xa n9 xc := ⟨_, rfl⟩
  obtain ⟨vcq, hvcq⟩ : ∃ v, v = Value.slice pa m9 pc := ⟨_, rfl⟩
  clear hvcd hvcq vcd vcq hm9 hnc9
  have hn9' : n9 ≤ 20 := by have := lcc.out; omega
  obtain ⟨cl, hcl⟩ : ∃ cl : Int, cl = ((coreL W0).1.length : Int) := ⟨_, rfl⟩
  have hcln : (cl != (n9 : Int)) = false := by rw [bne_eq_false_iff_eq, hcl, ← ecc.out]; omega
  replace hcl := hidI hcl
  replace hn9 := hidI hn9
  have hb3 := hb2.trans (hbn.mono hb2.size)
  replace hcw := hidI ((hcw.out.below hbn).mono hbn.size)
  replace hcc := hidI ((hcc.out.below hbn).mono hbn.size)
  replace hcp := hidI ((hcp.out.below hbn).mono hbn.size)
  replace hcode := hidI (codeIn_mono (hcode.out.below hbn) hbn.size)
  clear hbn hb2
  go_wp2_with fail
  refine (sameInts_law w3 vcc _ C hcc.out hcd.out).mono ?_
  rintro e w4 ⟨rfl, hbn, hsz4⟩
  have hb4 := hb3.trans (hbn.mono hb3.size)
  replace hcw := hidI ((hcw.out.below hbn).mono hbn.size)
  replace hcc := hidI ((hcc.out.below hbn).mono hbn.size)
  replace hcp := hidI ((hcp.out.below hbn).mono hbn.size)
  replace hcd := hidI ((hcd.out.below hbn).mono hbn.size)
  replace hcq := hidI ((hcq.out.below hbn).mono hbn.size)
  replace hcode := hidI (codeIn_mono (hcode.out.below hbn) hbn.size)
  clear hbn hb3
  go_wp2_with fail
  refine (sameInts_law w4 vcp _ P hcp.out hcq.out).mono ?_
  rintro e w5 ⟨rfl, hbn, hsz5⟩
  have hb5 := hb4.trans (hbn.mono hb4.size)
  replace hcw := hidI ((hcw.out.below hbn).mono hbn.size)
  replace hcc := hidI ((hcc.out.below hbn).mono hbn.size)
  replace hcp := hidI ((hcp.out.below hbn).mono hbn.size)
  replace hcd := hidI ((hcd.out.below hbn).mono hbn.size)
  replace hcq := hidI ((hcq.out.below hbn).mono hbn.size)
  replace hcode := hidI (codeIn_mono (hcode.out.below hbn) hbn.size)
  clear hbn hb4
  clear hcd
  clear hcq
  obtain ⟨M1, em1⟩ : ∃ F, F = mulL P C := ⟨_, rfl⟩
  have im1 : InR M1 := by rw [em1]; exact mulL_in icp.out icc.out
  have lm1 : M1.length ≤ 40 := by rw [em1]; have := mulL_length P C; have := lcp.out; have := lcc.out; omega
  replace im1 := hidI im1
  replace lm1 := hidI lm1
  replace em1 := hidI em1
  go_wp2_with fail
  refine (specMul w5 vcp vcc P C hcp.out hcc.out (by have := lcp.out; omega) (by have := lcc.out; omega)).mono ?_
  rw [← em1.out]
  rintro e w6 ⟨vm1, rfl, hrow, hbn⟩
  have hm1 := hidI hrow.read
  clear hrow
  have hb6 := hb5.trans (hbn.mono hb5.size)
  replace hcw := hidI ((hcw.out.below hbn).mono hbn.size)
  replace hcc := hidI ((hcc.out.below hbn).mono hbn.size)
  replace hcp := hidI ((hcp.out.below hbn).mono hbn.size)
  replace hcode := hidI (codeIn_mono (hcode.out.below hbn) hbn.size)
  clear hbn hb5
  obtain ⟨I1, ei1⟩ : ∃ F, F = invL P := ⟨_, rfl⟩
  have ii1 : InR I1 := by rw [ei1]; exact InR.invL
  have li1 : I1.length ≤ 20 := by rw [ei1]; rw [invL_length]; exact lcp.out
  replace ii1 := hidI ii1
  replace li1 := hidI li1
  replace ei1 := hidI ei1
  go_wp2_with fail
  refine (specInv w6 vcp P hcp.out (by have := lcp.out; omega)).mono ?_
  rw [← ei1.out]
  rintro e w7 ⟨vi1, rfl, hrow, hbn⟩
  have hi1 := hidI hrow.read
  clear hrow
  have hb7 := hb6.trans (hbn.mono hb6.size)
  replace hcw := hidI ((hcw.out.below hbn).mono hbn.size)
  replace hcc := hidI ((hcc.out.below hbn).mono hbn.size)
  replace hcp := hidI ((hcp.out.below hbn).mono hbn.size)
  replace hm1 := hidI ((hm1.out.below hbn).mono hbn.size)
  replace hcode := hidI (codeIn_mono (hcode.out.below hbn) hbn.size)
  clear hbn hb6
  obtain ⟨RW, erw⟩ : ∃ F, F = redL W0 := ⟨_, rfl⟩
  have irw : InR RW := by rw [erw]; exact redL_in icw.out
  have lrw : RW.length ≤ 20 := by rw [erw]; have := redL_length W0; have := lcw.out; omega
  replace irw := hidI irw
  replace lrw := hidI lrw
  replace erw := hidI erw
  have hcm : mulL M1 I1 = RW := by rw [em1.out, ei1.out, erw.out, ecc.out, ecp.out]; exact core_mul icw.out
  replace hcm := hidI hcm
  go_wp2_with fail
  refine (specMul w7 vm1 vi1 M1 I1 hm1.out hi1.out (by have := lm1.out; omega) (by have := li1.out; omega)).mono ?_
  rw [hcm.out]
  rintro e w8 ⟨vm2, rfl, hrow, hbn⟩
  have hm2 := hidI hrow.read
  clear hrow
  have hb8 := hb7.trans (hbn.mono hb7.size)
  replace hcw := hidI ((hcw.out.below hbn).mono hbn.size)
  replace hcc := hidI ((hcc.out.below hbn).mono hbn.size)
  replace hcp := hidI ((hcp.out.below hbn).mono hbn.size)
  replace hm1 := hidI ((hm1.out.below hbn).mono hbn.size)
  replace hi1 := hidI ((hi1.out.below hbn).mono hbn.size)
  replace hcode := hidI (codeIn_mono (hcode.out.below hbn) hbn.size)
  clear hbn hb7
  go_wp2_with fail
  refine (specRed w8 vcw W0 hcw.out (by have := lcw.out; omega)).mono ?_
  rw [← erw.out]
  rintro e w9 ⟨vm3, rfl, hrow, hbn⟩
  have hm3 := hidI hrow.read
  clear hrow
  have hb9 := hb8.trans (hbn.mono hb8.size)
  replace hcw := hidI ((hcw.out.below hbn).mono hbn.size)
  replace hcc := hidI ((hcc.out.below hbn).mono hbn.size)
  replace hcp := hidI ((hcp.out.below hbn).mono hbn.size)
  replace hm1 := hidI ((hm1.out.below hbn).mono hbn.size)
  replace hi1 := hidI ((hi1.out.below hbn).mono hbn.size)
  replace hm2 := hidI ((hm2.out.below hbn).mono hbn.size)
  replace hcode := hidI (codeIn_mono (hcode.out.below hbn) hbn.size)
  clear hbn hb8
  go_wp2_with fail
  refine (sameInts_law w9 vm2 vm3 RW hm2.out hm3.out).mono ?_
  rintro e w10 ⟨rfl, hbn, hsz10⟩
  have hb10 := hb9.trans (hbn.mono hb9.size)
  replace hcw := hidI ((hcw.out.below hbn).mono hbn.size)
  replace hcc := hidI ((hcc.out.below hbn).mono hbn.size)
  replace hcp := hidI ((hcp.out.below hbn).mono hbn.size)
  replace hm1 := hidI ((hm1.out.below hbn).mono hbn.size)
  replace hi1 := hidI ((hi1.out.below hbn).mono hbn.size)
  replace hm2 := hidI ((hm2.out.below hbn).mono hbn.size)
  replace hm3 := hidI ((hm3.out.below hbn).mono hbn.size)
  replace hcode := hidI (codeIn_mono (hcode.out.below hbn) hbn.size)
  clear hbn hb9
  clear hm1
  clear hi1
  clear hm2
  clear hm3
  clear hcc
  clear hcp
  go_wp2_with fail
  refine (iCLen w10 vcw W0 hcw.out (by have := lcw.out; omega)).mono ?_
  rw [← hcl.out]
  rintro e w11 ⟨rfl, hbn⟩
  have hb11 := hb10.trans (hbn.mono hb10.size)
  replace hcw := hidI ((hcw.out.below hbn).mono hbn.size)
  replace hcode := hidI (codeIn_mono (hcode.out.below hbn) hbn.size)
  clear hbn hb10
  go_wp2_with fail
  refine (drawConj_any w11 a len cap hcode.out).mono ?_
  rintro e w12 ⟨vka, vkb, A0, B0, pka, pkb, rfl, hka, hkb, hbn⟩
  have ika : InR A0 := pka.inR
  have lka : A0.length ≤ 40 := pka.2
  replace ika := hidI ika
  replace lka := hidI lka
  replace pka := hidI pka
  replace hka := hidI hka
  have ikb : InR B0 := pkb.inR
  have lkb : B0.length ≤ 40 := pkb.2
  replace ikb := hidI ikb
  replace lkb := hidI lkb
  replace pkb := hidI pkb
  replace hkb := hidI hkb
  have hb12 := hb11.trans (hbn.mono hb11.size)
  replace hcw := hidI ((hcw.out.below hbn).mono hbn.size)
  replace hcode := hidI (codeIn_mono (hcode.out.below hbn) hbn.size)
  clear hbn hb11
  obtain ⟨X, ekx⟩ : ∃ F, F = (conjW A0 B0).1 := ⟨_, rfl⟩
  have ikx : InR X := by rw [ekx]; exact conjW_in ika.out ikb.out
  have lkx : X.length ≤ 120 := by rw [ekx]; have := conjW_length A0 B0; have := lka.out; have := lkb.out; omega
  replace ikx := hidI ikx
  replace lkx := hidI lkx
  replace ekx := hidI ekx
  have hcj := conjW_iff pka.out.good pkb.out.good
  obtain ⟨bb, hbb⟩ : ∃ b, b = (conjW A0 B0).2 := ⟨_, rfl⟩
  rw [← hbb, ← ekx.out] at hcj
  have hbne : (bb != bb) = false := by simp
  replace hcj := hidI hcj
  replace hbb := hidI hbb
  go_wp2_with fail
  refine (iConj w12 vka vkb A0 B0 hka.out hkb.out (by have := lka.out; omega) (by have := lkb.out; omega)).mono ?_
  rw [← ekx.out, ← hbb.out]
  rintro e w13 ⟨vkx, rfl, hrow, hbn⟩
  have hkx := hidI hrow.read
  clear hrow
  have hb13 := hb12.trans (hbn.mono hb12.size)
  replace hcw := hidI ((hcw.out.below hbn).mono hbn.size)
  replace hka := hidI ((hka.out.below hbn).mono hbn.size)
  replace hkb := hidI ((hkb.out.below hbn).mono hbn.size)
  replace hcode := hidI (codeIn_mono (hcode.out.below hbn) hbn.size)
  clear hbn hb12
  go_wp2_with fail
  refine (specConj w13 vka vkb A0 B0 hka.out hkb.out (by have := lka.out; omega) (by have := lkb.out; omega)).mono ?_
  rw [← ekx.out, ← hbb.out]
  rintro e w14 ⟨vky, rfl, hrow, hbn⟩
  have hky := hidI hrow.read
  clear hrow
  have hb14 := hb13.trans (hbn.mono hb13.size)
  replace hcw := hidI ((hcw.out.below hbn).mono hbn.size)
  replace hka := hidI ((hka.out.below hbn).mono hbn.size)
  replace hkb := hidI ((hkb.out.below hbn).mono hbn.size)
  replace hkx := hidI ((hkx.out.below hbn).mono hbn.size)
  replace hcode := hidI (codeIn_mono (hcode.out.below hbn) hbn.size)
  clear hbn hb13
  go_wp2_with fail
  refine (sameInts_law w14 vkx vky X hkx.out hky.out).mono ?_
  rintro e w15 ⟨rfl, hbn, hsz15⟩
  have hb15 := hb14.trans (hbn.mono hb14.size)
  replace hcw := hidI ((hcw.out.below hbn).mono hbn.size)
  replace hka := hidI ((hka.out.below hbn).mono hbn.size)
  replace hkb := hidI ((hkb.out.below hbn).mono hbn.size)
  replace hkx := hidI ((hkx.out.below hbn).mono hbn.size)
  replace hky := hidI ((hky.out.below hbn).mono hbn.size)
  replace hcode := hidI (codeIn_mono (hcode.out.below hbn) hbn.size)
  clear hbn hb14
  clear hky
  cases bb with
  | true =>
    obtain ⟨RA, era⟩ : ∃ F, F = redL A0 := ⟨_, rfl⟩
    have ira : InR RA := by rw [era]; exact redL_in ika.out
    have lra : RA.length ≤ 40 := by rw [era]; have := redL_length A0; have := lka.out; omega
    replace ira := hidI ira
    replace lra := hidI lra
    replace era := hidI era
    go_wp2_with fail
    refine (specRed w15 vka A0 hka.out (by have := lka.out; omega)).mono ?_
    rw [← era.out]
    rintro e w16 ⟨vra, rfl, hrow, hbn⟩
    have hra := hidI hrow.read
    clear hrow
    have hb16 := hb15.trans (hbn.mono hb15.size)
    replace hcw := hidI ((hcw.out.below hbn).mono hbn.size)
    replace hka := hidI ((hka.out.below hbn).mono hbn.size)
    replace hkb := hidI ((hkb.out.below hbn).mono hbn.size)
    replace hkx := hidI ((hkx.out.below hbn).mono hbn.size)
    replace hcode := hidI (codeIn_mono (hcode.out.below hbn) hbn.size)
    clear hbn hb15
    obtain ⟨RB, erb⟩ : ∃ F, F = redL B0 := ⟨_, rfl⟩
    have irb : InR RB := by rw [erb]; exact redL_in ikb.out
    have lrb : RB.length ≤ 40 := by rw [erb]; have := redL_length B0; have := lkb.out; omega
    replace irb := hidI irb
    replace lrb := hidI lrb
    replace erb := hidI erb
    have hcon : conL RA X = RB := by rw [era.out, erb.out]; exact hcj.out.2 (by simp)
    replace hcon := hidI hcon
    go_wp2_with fail
    refine (specCon w16 vra vkx RA X hra.out hkx.out (by have := lra.out; omega) (by have := lkx.out; omega)).mono ?_
    rw [hcon.out]
    rintro e w17 ⟨vrc, rfl, hrow, hbn⟩
    have hrc := hidI hrow.read
    clear hrow
    have hb17 := hb16.trans (hbn.mono hb16.size)
    replace hcw := hidI ((hcw.out.below hbn).mono hbn.size)
    replace hka := hidI ((hka.out.below hbn).mono hbn.size)
    replace hkb := hidI ((hkb.out.below hbn).mono hbn.size)
    replace hkx := hidI ((hkx.out.below hbn).mono hbn.size)
    replace hra := hidI ((hra.out.below hbn).mono hbn.size)
    replace hcode := hidI (codeIn_mono (hcode.out.below hbn) hbn.size)
    clear hbn hb16
    go_wp2_with fail
    refine (specRed w17 vkb B0 hkb.out (by have := lkb.out; omega)).mono ?_
    rw [← erb.out]
    rintro e w18 ⟨vrd, rfl, hrow, hbn⟩
    have hrd := hidI hrow.read
    clear hrow
    have hb18 := hb17.trans (hbn.mono hb17.size)
    replace hcw := hidI ((hcw.out.below hbn).mono hbn.size)
    replace hka := hidI ((hka.out.below hbn).mono hbn.size)
    replace hkb := hidI ((hkb.out.below hbn).mono hbn.size)
    replace hkx := hidI ((hkx.out.below hbn).mono hbn.size)
    replace hra := hidI ((hra.out.below hbn).mono hbn.size)
    replace hrc := hidI ((hrc.out.below hbn).mono hbn.size)
    replace hcode := hidI (codeIn_mono (hcode.out.below hbn) hbn.size)
    clear hbn hb17
    go_wp2_with fail
    refine (sameInts_law w18 vrc vrd RB hrc.out hrd.out).mono ?_
    rintro e w19 ⟨rfl, hbn, hsz19⟩
    have hb19 := hb18.trans (hbn.mono hb18.size)
    replace hcw := hidI ((hcw.out.below hbn).mono hbn.size)
    replace hka := hidI ((hka.out.below hbn).mono hbn.size)
    replace hkb := hidI ((hkb.out.below hbn).mono hbn.size)
    replace hkx := hidI ((hkx.out.below hbn).mono hbn.size)
    replace hra := hidI ((hra.out.below hbn).mono hbn.size)
    replace hrc := hidI ((hrc.out.below hbn).mono hbn.size)
    replace hrd := hidI ((hrd.out.below hbn).mono hbn.size)
    replace hcode := hidI (codeIn_mono (hcode.out.below hbn) hbn.size)
    clear hbn hb18
    clear hra
    clear hrc
    clear hrd
    obtain ⟨FA, efa⟩ : ∃ F, F = (lrL (coreL A0).1).1 := ⟨_, rfl⟩
    have ifa : InR FA := by rw [efa]; exact lrL_in (coreL_in ika.out).1
    have lfa : FA.length ≤ 40 := by rw [efa]; rw [lrL_length]; have := (coreL_length A0).1; have := lka.out; omega
    replace ifa := hidI ifa
    replace lfa := hidI lfa
    replace efa := hidI efa
    go_wp2_with fail
    refine (iForm w19 vka A0 hka.out (by have := lka.out; omega)).mono ?_
    rw [← efa.out]
    rintro e w20 ⟨vfa, rfl, hrow, hbn⟩
    have hfa := hidI hrow.read
    clear hrow
    have hb20 := hb19.trans (hbn.mono hb19.size)
    replace hcw := hidI ((hcw.out.below hbn).mono hbn.size)
    replace hka := hidI ((hka.out.below hbn).mono hbn.size)
    replace hkb := hidI ((hkb.out.below hbn).mono hbn.size)
    replace hkx := hidI ((hkx.out.below hbn).mono hbn.size)
    replace hcode := hidI (codeIn_mono (hcode.out.below hbn) hbn.size)
    clear hbn hb19
    obtain ⟨FB, efb⟩ : ∃ F, F = (lrL (coreL B0).1).1 := ⟨_, rfl⟩
    have ifb : InR FB := by rw [efb]; exact lrL_in (coreL_in ikb.out).1
    have lfb : FB.length ≤ 40 := by rw [efb]; rw [lrL_length]; have := (coreL_length B0).1; have := lkb.out; omega
    replace ifb := hidI ifb
    replace lfb := hidI lfb
    replace efb := hidI efb
    go_wp2_with fail
    refine (iForm w20 vkb B0 hkb.out (by have := lkb.out; omega)).mono ?_
    rw [← efb.out]
    rintro e w21 ⟨vfb, rfl, hrow, hbn⟩
    have hfb := hidI hrow.read
    clear hrow
    have hb21 := hb20.trans (hbn.mono hb20.size)
    replace hcw := hidI ((hcw.out.below hbn).mono hbn.size)
    replace hka := hidI ((hka.out.below hbn).mono hbn.size)
    replace hkb := hidI ((hkb.out.below hbn).mono hbn.size)
    replace hkx := hidI ((hkx.out.below hbn).mono hbn.size)
    replace hfa := hidI ((hfa.out.below hbn).mono hbn.size)
    replace hcode := hidI (codeIn_mono (hcode.out.below hbn) hbn.size)
    clear hbn hb20
    have hdec : decide (FA = FB) = true := by rw [efa.out, efb.out]; exact hcj.out.1.symm
    replace hdec := hidI hdec
    go_wp2_with fail
    refine (sameInts_any w21 w21.heap.size vfa vfb FA FB hfa.out hfb.out).mono ?_
    rw [hdec.out]
    rintro e w22 ⟨rfl, nq, hwq⟩
    have hbn : Below w21.heap.size w21 w22 := by rw [hwq]; exact below_dn (Below.refl _ _) nq
    clear hwq
    have hb22 := hb21.trans (hbn.mono hb21.size)
    replace hcw := hidI ((hcw.out.below hbn).mono hbn.size)
    replace hka := hidI ((hka.out.below hbn).mono hbn.size)
    replace hkb := hidI ((hkb.out.below hbn).mono hbn.size)
    replace hkx := hidI ((hkx.out.below hbn).mono hbn.size)
    replace hfa := hidI ((hfa.out.below hbn).mono hbn.size)
    replace hfb := hidI ((hfb.out.below hbn).mono hbn.size)
    replace hcode := hidI (codeIn_mono (hcode.out.below hbn) hbn.size)
    clear hbn hb21
    clear hfa
    clear hfb
    clear hkx
    clear hka
    clear hkb
    go_wp2_with fail
    refine (drawRot_any w22 a len cap hcode.out).mono ?_
    rintro e w23 ⟨vrr, R0, kk, prr, rfl, hrr, hbn⟩
    have irr : InR R0 := prr.1.inR
    have lrr : R0.length ≤ 20 := prr.1.2
    have hk1 : -4 ≤ kk := prr.2.1
    have hk2 : kk ≤ 7 := prr.2.2
    replace irr := hidI irr
    replace lrr := hidI lrr
    replace prr := hidI prr
    replace hrr := hidI hrr
    have hb23 := hb22.trans (hbn.mono hb22.size)
    replace hcw := hidI ((hcw.out.below hbn).mono hbn.size)
    replace hcode := hidI (codeIn_mono (hcode.out.below hbn) hbn.size)
    clear hbn hb22
    go_wp2_with fail
    refine (drawLeast_any w23 a len cap hcode.out).mono ?_
    rintro e w24 ⟨vll, L0, pll, rfl, hll, hbn⟩
    have ill : InR L0 := pll.inR
    have lll : L0.length ≤ 20 := pll.2
    replace ill := hidI ill
    replace lll := hidI lll
    replace pll := hidI pll
    replace hll := hidI hll
    have hb24 := hb23.trans (hbn.mono hb23.size)
    replace hcw := hidI ((hcw.out.below hbn).mono hbn.size)
    replace hrr := hidI ((hrr.out.below hbn).mono hbn.size)
    replace hcode := hidI (codeIn_mono (hcode.out.below hbn) hbn.size)
    clear hbn hb23
    obtain ⟨LM, elm⟩ : ∃ F, F = (lrL L0).1 := ⟨_, rfl⟩
    have ilm : InR LM := by rw [elm]; exact lrL_in ill.out
    have llm : LM.length ≤ 20 := by rw [elm]; rw [lrL_length]; exact lll.out
    replace ilm := hidI ilm
    replace llm := hidI llm
    replace elm := hidI elm
    obtain ⟨ln, hln⟩ : ∃ ln : Int, ln = ((lrL L0).2 : Int) := ⟨_, rfl⟩
    have hlb : 0 ≤ ln ∧ ln ≤ 20 := by have h1 := (lrG_rot L0 (L0.length - 1)).2; have h2 := lll.out; rw [hln]; unfold lrL; omega
    obtain ⟨hlb0, hlb1⟩ := hlb
    have hlrot : rotL L0 ln = LM := by rw [hln, rotL_nat, elm.out, lrL_rot]
    have hlne : (ln == ln) = true := by simp
    replace hlrot := hidI hlrot
    replace hln := hidI hln
    go_wp2_with fail
    refine (iLR w24 vll L0 hll.out (by have := lll.out; omega)).mono ?_
    rw [← elm.out, ← hln.out]
    rintro e w25 ⟨vlm, rfl, hrow, hbn⟩
    have hlm := hidI hrow.read
    clear hrow
    have hb25 := hb24.trans (hbn.mono hb24.size)
    replace hcw := hidI ((hcw.out.below hbn).mono hbn.size)
    replace hrr := hidI ((hrr.out.below hbn).mono hbn.size)
    replace hll := hidI ((hll.out.below hbn).mono hbn.size)
    replace hcode := hidI (codeIn_mono (hcode.out.below hbn) hbn.size)
    clear hbn hb24
    go_wp2_with fail
    refine (specLR w25 vll L0 hll.out (by have := lll.out; omega)).mono ?_
    rw [← elm.out, ← hln.out]
    rintro e w26 ⟨vlo, rfl, hrow, hbn⟩
    have hlo := hidI hrow.read
    clear hrow
    have hb26 := hb25.trans (hbn.mono hb25.size)
    replace hcw := hidI ((hcw.out.below hbn).mono hbn.size)
    replace hrr := hidI ((hrr.out.below hbn).mono hbn.size)
    replace hll := hidI ((hll.out.below hbn).mono hbn.size)
    replace hlm := hidI ((hlm.out.below hbn).mono hbn.size)
    replace hcode := hidI (codeIn_mono (hcode.out.below hbn) hbn.size)
    clear hbn hb25
    obtain ⟨RO, ero⟩ : ∃ F, F = rotL R0 kk := ⟨_, rfl⟩
    have iro : InR RO := by rw [ero]; exact rotN_in irr.out _
    have lro : RO.length ≤ 20 := by rw [ero]; rw [rotL_length]; exact lrr.out
    replace iro := hidI iro
    replace lro := hidI lro
    replace ero := hidI ero
    go_wp2_with fail
    refine (iRot w26 vrr R0 kk hrr.out (by have := lrr.out; omega) (by omega) (by omega)).mono ?_
    rw [← ero.out]
    rintro e w27 ⟨vro, rfl, hrow, hbn⟩
    have hro := hidI hrow.read
    clear hrow
    have hb27 := hb26.trans (hbn.mono hb26.size)
    replace hcw := hidI ((hcw.out.below hbn).mono hbn.size)
    replace hrr := hidI ((hrr.out.below hbn).mono hbn.size)
    replace hll := hidI ((hll.out.below hbn).mono hbn.size)
    replace hlm := hidI ((hlm.out.below hbn).mono hbn.size)
    replace hlo := hidI ((hlo.out.below hbn).mono hbn.size)
    replace hcode := hidI (codeIn_mono (hcode.out.below hbn) hbn.size)
    clear hbn hb26
    go_wp2_with fail
    refine (specRot w27 vrr R0 kk hrr.out (by have := lrr.out; omega) (by omega) (by omega)).mono ?_
    rw [← ero.out]
    rintro e w28 ⟨vrp, rfl, hrow, hbn⟩
    have hrp := hidI hrow.read
    clear hrow
    have hb28 := hb27.trans (hbn.mono hb27.size)
    replace hcw := hidI ((hcw.out.below hbn).mono hbn.size)
    replace hrr := hidI ((hrr.out.below hbn).mono hbn.size)
    replace hll := hidI ((hll.out.below hbn).mono hbn.size)
    replace hlm := hidI ((hlm.out.below hbn).mono hbn.size)
    replace hlo := hidI ((hlo.out.below hbn).mono hbn.size)
    replace hro := hidI ((hro.out.below hbn).mono hbn.size)
    replace hcode := hidI (codeIn_mono (hcode.out.below hbn) hbn.size)
    clear hbn hb27
    go_wp2_with fail
    refine (sameInts_law w28 vro vrp RO hro.out hrp.out).mono ?_
    rintro e w29 ⟨rfl, hbn, hsz29⟩
    have hb29 := hb28.trans (hbn.mono hb28.size)
    replace hcw := hidI ((hcw.out.below hbn).mono hbn.size)
    replace hrr := hidI ((hrr.out.below hbn).mono hbn.size)
    replace hll := hidI ((hll.out.below hbn).mono hbn.size)
    replace hlm := hidI ((hlm.out.below hbn).mono hbn.size)
    replace hlo := hidI ((hlo.out.below hbn).mono hbn.size)
    replace hro := hidI ((hro.out.below hbn).mono hbn.size)
    replace hrp := hidI ((hrp.out.below hbn).mono hbn.size)
    replace hcode := hidI (codeIn_mono (hcode.out.below hbn) hbn.size)
    clear hbn hb28
    clear hro
    clear hrp
    clear hrr
    go_wp2_with fail
    refine (sameInts_law w29 vlm vlo LM hlm.out hlo.out).mono ?_
    rintro e w30 ⟨rfl, hbn, hsz30⟩
    have hb30 := hb29.trans (hbn.mono hb29.size)
    replace hcw := hidI ((hcw.out.below hbn).mono hbn.size)
    replace hll := hidI ((hll.out.below hbn).mono hbn.size)
    replace hlm := hidI ((hlm.out.below hbn).mono hbn.size)
    replace hlo := hidI ((hlo.out.below hbn).mono hbn.size)
    replace hcode := hidI (codeIn_mono (hcode.out.below hbn) hbn.size)
    clear hbn hb29
    clear hlo
    go_wp2_with fail
    refine (specRot w30 vll L0 ln hll.out (by have := lll.out; omega) (by omega) (by omega)).mono ?_
    rw [hlrot.out]
    rintro e w31 ⟨vlr, rfl, hrow, hbn⟩
    have hlr := hidI hrow.read
    clear hrow
    have hb31 := hb30.trans (hbn.mono hb30.size)
    replace hcw := hidI ((hcw.out.below hbn).mono hbn.size)
    replace hll := hidI ((hll.out.below hbn).mono hbn.size)
    replace hlm := hidI ((hlm.out.below hbn).mono hbn.size)
    replace hcode := hidI (codeIn_mono (hcode.out.below hbn) hbn.size)
    clear hbn hb30
    go_wp2_with fail
    refine (sameInts_law w31 vlm vlr LM hlm.out hlr.out).mono ?_
    rintro e w32 ⟨rfl, hbn, hsz32⟩
    have hb32 := hb31.trans (hbn.mono hb31.size)
    replace hcw := hidI ((hcw.out.below hbn).mono hbn.size)
    replace hll := hidI ((hll.out.below hbn).mono hbn.size)
    replace hlm := hidI ((hlm.out.below hbn).mono hbn.size)
    replace hlr := hidI ((hlr.out.below hbn).mono hbn.size)
    replace hcode := hidI (codeIn_mono (hcode.out.below hbn) hbn.size)
    clear hbn hb31
    clear hlm
    clear hlr
    clear hll
    obtain ⟨GA, ega⟩ : ∃ F, F = (lrL (coreL W0).1).1 := ⟨_, rfl⟩
    have iga : InR GA := by rw [ega]; exact lrL_in (coreL_in icw.out).1
    have lga : GA.length ≤ 20 := by rw [ega]; rw [lrL_length]; have := (coreL_length W0).1; have := lcw.out; omega
    replace iga := hidI iga
    replace lga := hidI lga
    replace ega := hidI ega
    go_wp2_with fail
    refine (iForm w32 vcw W0 hcw.out (by have := lcw.out; omega)).mono ?_
    rw [← ega.out]
    rintro e w33 ⟨vga, rfl, hrow, hbn⟩
    have hga := hidI hrow.read
    clear hrow
    have hb33 := hb32.trans (hbn.mono hb32.size)
    replace hcw := hidI ((hcw.out.below hbn).mono hbn.size)
    replace hcode := hidI (codeIn_mono (hcode.out.below hbn) hbn.size)
    clear hbn hb32
    go_wp2_with fail
    refine (specForm w33 vcw W0 hcw.out (by have := lcw.out; omega)).mono ?_
    rw [← ega.out]
    rintro e w34 ⟨vgb, rfl, hrow, hbn⟩
    have hgb := hidI hrow.read
    clear hrow
    have hb34 := hb33.trans (hbn.mono hb33.size)
    replace hcw := hidI ((hcw.out.below hbn).mono hbn.size)
    replace hga := hidI ((hga.out.below hbn).mono hbn.size)
    replace hcode := hidI (codeIn_mono (hcode.out.below hbn) hbn.size)
    clear hbn hb33
    go_wp2_with fail
    refine (sameInts_law w34 vga vgb GA hga.out hgb.out).mono ?_
    rintro e w35 ⟨rfl, hbn, hsz35⟩
    have hb35 := hb34.trans (hbn.mono hb34.size)
    replace hcw := hidI ((hcw.out.below hbn).mono hbn.size)
    replace hga := hidI ((hga.out.below hbn).mono hbn.size)
    replace hgb := hidI ((hgb.out.below hbn).mono hbn.size)
    replace hcode := hidI (codeIn_mono (hcode.out.below hbn) hbn.size)
    clear hbn hb34
    go_wp2_with fail
    go_ret
    exact ⟨rfl, hb35⟩
  | false =>
    obtain ⟨FA, efa⟩ : ∃ F, F = (lrL (coreL A0).1).1 := ⟨_, rfl⟩
    have ifa : InR FA := by rw [efa]; exact lrL_in (coreL_in ika.out).1
    have lfa : FA.length ≤ 40 := by rw [efa]; rw [lrL_length]; have := (coreL_length A0).1; have := lka.out; omega
    replace ifa := hidI ifa
    replace lfa := hidI lfa
    replace efa := hidI efa
    go_wp2_with fail
    refine (iForm w15 vka A0 hka.out (by have := lka.out; omega)).mono ?_
    rw [← efa.out]
    rintro e w16 ⟨vfa, rfl, hrow, hbn⟩
    have hfa := hidI hrow.read
    clear hrow
    have hb16 := hb15.trans (hbn.mono hb15.size)
    replace hcw := hidI ((hcw.out.below hbn).mono hbn.size)
    replace hka := hidI ((hka.out.below hbn).mono hbn.size)
    replace hkb := hidI ((hkb.out.below hbn).mono hbn.size)
    replace hkx := hidI ((hkx.out.below hbn).mono hbn.size)
    replace hcode := hidI (codeIn_mono (hcode.out.below hbn) hbn.size)
    clear hbn hb15
    obtain ⟨FB, efb⟩ : ∃ F, F = (lrL (coreL B0).1).1 := ⟨_, rfl⟩
    have ifb : InR FB := by rw [efb]; exact lrL_in (coreL_in ikb.out).1
    have lfb : FB.length ≤ 40 := by rw [efb]; rw [lrL_length]; have := (coreL_length B0).1; have := lkb.out; omega
    replace ifb := hidI ifb
    replace lfb := hidI lfb
    replace efb := hidI efb
    go_wp2_with fail
    refine (iForm w16 vkb B0 hkb.out (by have := lkb.out; omega)).mono ?_
    rw [← efb.out]
    rintro e w17 ⟨vfb, rfl, hrow, hbn⟩
    have hfb := hidI hrow.read
    clear hrow
    have hb17 := hb16.trans (hbn.mono hb16.size)
    replace hcw := hidI ((hcw.out.below hbn).mono hbn.size)
    replace hka := hidI ((hka.out.below hbn).mono hbn.size)
    replace hkb := hidI ((hkb.out.below hbn).mono hbn.size)
    replace hkx := hidI ((hkx.out.below hbn).mono hbn.size)
    replace hfa := hidI ((hfa.out.below hbn).mono hbn.size)
    replace hcode := hidI (codeIn_mono (hcode.out.below hbn) hbn.size)
    clear hbn hb16
    have hdec : decide (FA = FB) = false := by rw [efa.out, efb.out]; exact hcj.out.1.symm
    replace hdec := hidI hdec
    go_wp2_with fail
    refine (sameInts_any w17 w17.heap.size vfa vfb FA FB hfa.out hfb.out).mono ?_
    rw [hdec.out]
    rintro e w18 ⟨rfl, nq, hwq⟩
    have hbn : Below w17.heap.size w17 w18 := by rw [hwq]; exact below_dn (Below.refl _ _) nq
    clear hwq
    have hb18 := hb17.trans (hbn.mono hb17.size)
    replace hcw := hidI ((hcw.out.below hbn).mono hbn.size)
    replace hka := hidI ((hka.out.below hbn).mono hbn.size)
    replace hkb := hidI ((hkb.out.below hbn).mono hbn.size)
    replace hkx := hidI ((hkx.out.below hbn).mono hbn.size)
    replace hfa := hidI ((hfa.out.below hbn).mono hbn.size)
    replace hfb := hidI ((hfb.out.below hbn).mono hbn.size)
    replace hcode := hidI (codeIn_mono (hcode.out.below hbn) hbn.size)
    clear hbn hb17
    clear hfa
    clear hfb
    clear hkx
    clear hka
    clear hkb
    go_wp2_with fail
    refine (drawRot_any w18 a len cap hcode.out).mono ?_
    rintro e w19 ⟨vrr, R0, kk, prr, rfl, hrr, hbn⟩
    have irr : InR R0 := prr.1.inR
    have lrr : R0.length ≤ 20 := prr.1.2
    have hk1 : -4 ≤ kk := prr.2.1
    have hk2 : kk ≤ 7 := prr.2.2
    replace irr := hidI irr
    replace lrr := hidI lrr
    replace prr := hidI prr
    replace hrr := hidI hrr
    have hb19 := hb18.trans (hbn.mono hb18.size)
    replace hcw := hidI ((hcw.out.below hbn).mono hbn.size)
    replace hcode := hidI (codeIn_mono (hcode.out.below hbn) hbn.size)
    clear hbn hb18
    go_wp2_with fail
    refine (drawLeast_any w19 a len cap hcode.out).mono ?_
    rintro e w20 ⟨vll, L0, pll, rfl, hll, hbn⟩
    have ill : InR L0 := pll.inR
    have lll : L0.length ≤ 20 := pll.2
    replace ill := hidI ill
    replace lll := hidI lll
    replace pll := hidI pll
    replace hll := hidI hll
    have hb20 := hb19.trans (hbn.mono hb19.size)
    replace hcw := hidI ((hcw.out.below hbn).mono hbn.size)
    replace hrr := hidI ((hrr.out.below hbn).mono hbn.size)
    replace hcode := hidI (codeIn_mono (hcode.out.below hbn) hbn.size)
    clear hbn hb19
    obtain ⟨LM, elm⟩ : ∃ F, F = (lrL L0).1 := ⟨_, rfl⟩
    have ilm : InR LM := by rw [elm]; exact lrL_in ill.out
    have llm : LM.length ≤ 20 := by rw [elm]; rw [lrL_length]; exact lll.out
    replace ilm := hidI ilm
    replace llm := hidI llm
    replace elm := hidI elm
    obtain ⟨ln, hln⟩ : ∃ ln : Int, ln = ((lrL L0).2 : Int) := ⟨_, rfl⟩
    have hlb : 0 ≤ ln ∧ ln ≤ 20 := by have h1 := (lrG_rot L0 (L0.length - 1)).2; have h2 := lll.out; rw [hln]; unfold lrL; omega
    obtain ⟨hlb0, hlb1⟩ := hlb
    have hlrot : rotL L0 ln = LM := by rw [hln, rotL_nat, elm.out, lrL_rot]
    have hlne : (ln == ln) = true := by simp
    replace hlrot := hidI hlrot
    replace hln := hidI hln
    go_wp2_with fail
    refine (iLR w20 vll L0 hll.out (by have := lll.out; omega)).mono ?_
    rw [← elm.out, ← hln.out]
    rintro e w21 ⟨vlm, rfl, hrow, hbn⟩
    have hlm := hidI hrow.read
    clear hrow
    have hb21 := hb20.trans (hbn.mono hb20.size)
    replace hcw := hidI ((hcw.out.below hbn).mono hbn.size)
    replace hrr := hidI ((hrr.out.below hbn).mono hbn.size)
    replace hll := hidI ((hll.out.below hbn).mono hbn.size)
    replace hcode := hidI (codeIn_mono (hcode.out.below hbn) hbn.size)
    clear hbn hb20
    go_wp2_with fail
    refine (specLR w21 vll L0 hll.out (by have := lll.out; omega)).mono ?_
    rw [← elm.out, ← hln.out]
    rintro e w22 ⟨vlo, rfl, hrow, hbn⟩
    have hlo := hidI hrow.read
    clear hrow
    have hb22 := hb21.trans (hbn.mono hb21.size)
    replace hcw := hidI ((hcw.out.below hbn).mono hbn.size)
    replace hrr := hidI ((hrr.out.below hbn).mono hbn.size)
    replace hll := hidI ((hll.out.below hbn).mono hbn.size)
    replace hlm := hidI ((hlm.out.below hbn).mono hbn.size)
    replace hcode := hidI (codeIn_mono (hcode.out.below hbn) hbn.size)
    clear hbn hb21
    obtain ⟨RO, ero⟩ : ∃ F, F = rotL R0 kk := ⟨_, rfl⟩
    have iro : InR RO := by rw [ero]; exact rotN_in irr.out _
    have lro : RO.length ≤ 20 := by rw [ero]; rw [rotL_length]; exact lrr.out
    replace iro := hidI iro
    replace lro := hidI lro
    replace ero := hidI ero
    go_wp2_with fail
    refine (iRot w22 vrr R0 kk hrr.out (by have := lrr.out; omega) (by omega) (by omega)).mono ?_
    rw [← ero.out]
    rintro e w23 ⟨vro, rfl, hrow, hbn⟩
    have hro := hidI hrow.read
    clear hrow
    have hb23 := hb22.trans (hbn.mono hb22.size)
    replace hcw := hidI ((hcw.out.below hbn).mono hbn.size)
    replace hrr := hidI ((hrr.out.below hbn).mono hbn.size)
    replace hll := hidI ((hll.out.below hbn).mono hbn.size)
    replace hlm := hidI ((hlm.out.below hbn).mono hbn.size)
    replace hlo := hidI ((hlo.out.below hbn).mono hbn.size)
    replace hcode := hidI (codeIn_mono (hcode.out.below hbn) hbn.size)
    clear hbn hb22
    go_wp2_with fail
    refine (specRot w23 vrr R0 kk hrr.out (by have := lrr.out; omega) (by omega) (by omega)).mono ?_
    rw [← ero.out]
    rintro e w24 ⟨vrp, rfl, hrow, hbn⟩
    have hrp := hidI hrow.read
    clear hrow
    have hb24 := hb23.trans (hbn.mono hb23.size)
    replace hcw := hidI ((hcw.out.below hbn).mono hbn.size)
    replace hrr := hidI ((hrr.out.below hbn).mono hbn.size)
    replace hll := hidI ((hll.out.below hbn).mono hbn.size)
    replace hlm := hidI ((hlm.out.below hbn).mono hbn.size)
    replace hlo := hidI ((hlo.out.below hbn).mono hbn.size)
    replace hro := hidI ((hro.out.below hbn).mono hbn.size)
    replace hcode := hidI (codeIn_mono (hcode.out.below hbn) hbn.size)
    clear hbn hb23
    go_wp2_with fail
    refine (sameInts_law w24 vro vrp RO hro.out hrp.out).mono ?_
    rintro e w25 ⟨rfl, hbn, hsz25⟩
    have hb25 := hb24.trans (hbn.mono hb24.size)
    replace hcw := hidI ((hcw.out.below hbn).mono hbn.size)
    replace hrr := hidI ((hrr.out.below hbn).mono hbn.size)
    replace hll := hidI ((hll.out.below hbn).mono hbn.size)
    replace hlm := hidI ((hlm.out.below hbn).mono hbn.size)
    replace hlo := hidI ((hlo.out.below hbn).mono hbn.size)
    replace hro := hidI ((hro.out.below hbn).mono hbn.size)
    replace hrp := hidI ((hrp.out.below hbn).mono hbn.size)
    replace hcode := hidI (codeIn_mono (hcode.out.below hbn) hbn.size)
    clear hbn hb24
    clear hro
    clear hrp
    clear hrr
    go_wp2_with fail
    refine (sameInts_law w25 vlm vlo LM hlm.out hlo.out).mono ?_
    rintro e w26 ⟨rfl, hbn, hsz26⟩
    have hb26 := hb25.trans (hbn.mono hb25.size)
    replace hcw := hidI ((hcw.out.below hbn).mono hbn.size)
    replace hll := hidI ((hll.out.below hbn).mono hbn.size)
    replace hlm := hidI ((hlm.out.below hbn).mono hbn.size)
    replace hlo := hidI ((hlo.out.below hbn).mono hbn.size)
    replace hcode := hidI (codeIn_mono (hcode.out.below hbn) hbn.size)
    clear hbn hb25
    clear hlo
    go_wp2_with fail
    refine (specRot w26 vll L0 ln hll.out (by have := lll.out; omega) (by omega) (by omega)).mono ?_
    rw [hlrot.out]
    rintro e w27 ⟨vlr, rfl, hrow, hbn⟩
    have hlr := hidI hrow.read
    clear hrow
    have hb27 := hb26.trans (hbn.mono hb26.size)
    replace hcw := hidI ((hcw.out.below hbn).mono hbn.size)
    replace hll := hidI ((hll.out.below hbn).mono hbn.size)
    replace hlm := hidI ((hlm.out.below hbn).mono hbn.size)
    replace hcode := hidI (codeIn_mono (hcode.out.below hbn) hbn.size)
    clear hbn hb26
    go_wp2_with fail
    refine (sameInts_law w27 vlm vlr LM hlm.out hlr.out).mono ?_
    rintro e w28 ⟨rfl, hbn, hsz28⟩
    have hb28 := hb27.trans (hbn.mono hb27.size)
    replace hcw := hidI ((hcw.out.below hbn).mono hbn.size)
    replace hll := hidI ((hll.out.below hbn).mono hbn.size)
    replace hlm := hidI ((hlm.out.below hbn).mono hbn.size)
    replace hlr := hidI ((hlr.out.below hbn).mono hbn.size)
    replace hcode := hidI (codeIn_mono (hcode.out.below hbn) hbn.size)
    clear hbn hb27
    clear hlm
    clear hlr
    clear hll
    obtain ⟨GA, ega⟩ : ∃ F, F = (lrL (coreL W0).1).1 := ⟨_, rfl⟩
    have iga : InR GA := by rw [ega]; exact lrL_in (coreL_in icw.out).1
    have lga : GA.length ≤ 20 := by rw [ega]; rw [lrL_length]; have := (coreL_length W0).1; have := lcw.out; omega
    replace iga := hidI iga
    replace lga := hidI lga
    replace ega := hidI ega
    go_wp2_with fail
    refine (iForm w28 vcw W0 hcw.out (by have := lcw.out; omega)).mono ?_
    rw [← ega.out]
    rintro e w29 ⟨vga, rfl, hrow, hbn⟩
    have hga := hidI hrow.read
    clear hrow
    have hb29 := hb28.trans (hbn.mono hb28.size)
    replace hcw := hidI ((hcw.out.below hbn).mono hbn.size)
    replace hcode := hidI (codeIn_mono (hcode.out.below hbn) hbn.size)
    clear hbn hb28
    go_wp2_with fail
    refine (specForm w29 vcw W0 hcw.out (by have := lcw.out; omega)).mono ?_
    rw [← ega.out]
    rintro e w30 ⟨vgb, rfl, hrow, hbn⟩
    have hgb := hidI hrow.read
    clear hrow
    have hb30 := hb29.trans (hbn.mono hb29.size)
    replace hcw := hidI ((hcw.out.below hbn).mono hbn.size)
    replace hga := hidI ((hga.out.below hbn).mono hbn.size)
    replace hcode := hidI (codeIn_mono (hcode.out.below hbn) hbn.size)
    clear hbn hb29
    go_wp2_with fail
    refine (sameInts_law w30 vga vgb GA hga.out hgb.out).mono ?_
    rintro e w31 ⟨rfl, hbn, hsz31⟩
    have hb31 := hb30.trans (hbn.mono hb30.size)
    replace hcw := hidI ((hcw.out.below hbn).mono hbn.size)
    replace hga := hidI ((hga.out.below hbn).mono hbn.size)
    replace hgb := hidI ((hgb.out.below hbn).mono hbn.size)
    replace hcode := hidI (codeIn_mono (hcode.out.below hbn) hbn.size)
    clear hbn hb30
    go_wp2_with fail
    go_ret
    exact ⟨rfl, hb31⟩
theorem walk (W : World) (a0 : Option Addr) (len0 cap0 : Nat) (z0 : List Int) (w0 : IsRow .u8 W a0 len0 cap0 z0) :
    Calls Try.prog 3 #[.slice a0 len0 cap0] W fun e w' => e = .returned (.bool true) ∧ Below W.heap.size W w' := by
  by_cases hbig : 1048576 < len0
  · go_enter Try.func3, Try.ntmps3
    go_wp2_with fail
    refine (big_yes _ a0 len0 cap0 hbig).mono ?_
    rintro e w1 ⟨rfl, rfl⟩
    go_wp2_with fail
    go_ret
    exact ⟨rfl, Below.refl _ _⟩
  · exact walk0 W a0 len0 cap0 (codeIn_row w0 (by omega)) (row_cap w0)

/-! ### The row's step -/
set_option maxRecDepth 100000 in
theorem lifted (os : Os) (started : os.Started) (H : Type) (enc : TypeId × Value → H) :
    ReturnsInHanded {} Try.checked os 3 .any (Rows.fnCyclicSpec.pre6 enc Try.prog Try.f3 Rows.fnCyclicRow.domain false) (Rows.fnCyclicSpec.post enc Try.prog Try.f3 false true false false) := by
  refine returnsInHanded_of_change (C := Try.checked) own started (by kernel_rfl) Try.func3
    (ChangeSpec.witness6 (enc := enc) (C := Try.checked) false ⟨#[], #[.slice none 0 0], []⟩ 8 (by kernel_rfl) (by kernel_rfl) (by kernel_rfl) (by kernel_rfl)) ?_
  intro W base args ds gs before hval0 hW hcnd _
  have hval : ∀ (j : Nat) t v, Try.f3.params[j]? = some t → args[j]? = some v → Value.okWide Try.prog W .any base t v := hval0
  have hW' := hW
  obtain ⟨p, q, hA0, hV, rfl, hfz, hnd⟩ := hW
  have hA : DataW.TrodAll enc Try.prog W 0 (fun _ => true) true Try.f3.params.toList args.toList ds p := hA0
  rw [Try.params3] at hA hval
  obtain ⟨v0, vs0, d0, ds0, p0, q0, hargs, rfl, rfl, h0, r0⟩ := trodAll_cons hA
  obtain ⟨rfl, rfl, rfl⟩ := trodAll_nil r0
  obtain rfl : args = #[v0] := by cases args; simp_all
  obtain ⟨rfl, rfl⟩ := trodVars_none hV
  obtain ⟨a0, len0, cap0, rfl⟩ := okWide_slice Try.underlying22 (hval 0 22 v0 rfl rfl)
  have k0 := h0
  have lt0 : ∀ x ∈ p0, x.block < W.heap.size := by obtain ⟨m, hm⟩ := k0; exact DataW.trod_lt m _ _ _ hm
  obtain ⟨z0, w0⟩ : ∃ zs, IsRow .u8 W a0 len0 cap0 zs := by
    obtain ⟨fuel, hf⟩ := h0
    rcases open_ints Try.underlying22 Try.underlying5 (by kernel_rfl) hf with ⟨hcs, _⟩ | ⟨x, l, c, zs, hcs, _, hl, hm, hz, _, hcell, hwz⟩
    · simp [Value.cells] at hcs
      obtain ⟨rfl, rfl, rfl⟩ := hcs
      exact ⟨[], .inl ⟨rfl, rfl, rfl, rfl⟩⟩
    · simp [Value.cells] at hcs
      obtain ⟨rfl, rfl, rfl⟩ := hcs
      exact ⟨zs, .inr ⟨_, rfl, hl, hm, by simpa using hz, hcell, hwz⟩⟩
  clear hA0 hval0
  refine (walk W a0 len0 cap0 z0 w0).mono fun e W' ⟨he, hg⟩ => ?_
  subst he
  exact ⟨_, rfl, _, _, _, [], _, [], hW', trodAll_mk1 (shut_bool Try.underlying4 _), (trodAll_cons_mk (Below.trod laidOut (by kernel_rfl) (of_decide_eq_true (by kernel_rfl)) k0 hg lt0) trodAll_mk0), rfl, hg.frame _, fun h => by cases h⟩

theorem over : Rows.fnCyclicRow.holds Try.pinned (OpenSpec.ofChange Rows.fnCyclicSpec) :=
  OpenClaim.holds_of_wide 3 Try.f3 rfl rfl rfl rfl rfl rfl rfl ⟨rfl, rfl, rfl, rfl, rfl⟩ rfl rfl rfl rfl rfl (by kernel_rfl) Try.func3 (by kernel_rfl)
    (of_decide_eq_true (by kernel_rfl)) (by unfold Func.isWrapper; first | (rw [if_pos (by decide +kernel)]; kernel_rfl) | (rw [if_neg (by decide +kernel)]; exact ⟨rfl, rfl⟩))
    (fun os started H enc _ => lifted os started H enc)

theorem proved : Rows.FnCyclicSaid := over
#print axioms proved
end Go.Proofs.Ytcjkgknmpgehbaa.fnCyclic
