/- For every slice of bytes, laws.FnWords returns true and leaves its argument as it is: multiplication of reduced words is that of a group, at the words drawn from the bytes. Conditions: none beyond the row's. -/
import Derived.Test.YthjlemcnddkjgaaSN
import Derived.Test.YthjlemcnddkjgaaDWb
import Derived.Test.YthjlemcnddkjgaaWG
import Derived.Test.YthjlemcnddkjgaaWJ
import Derived.Test.YthjlemcnddkjgaaWS6
import Derived.Test.YthjlemcnddkjgaaWF
import Derived.WalkKit
import Derived.ProofKit
import Derived.OpenShut
import Derived.ShutString
import Derived.Below
namespace Go.Proofs.Ythjlemcnddkjgaa.fnWords
open Go.ChangeShapes Go.WideShapes Go.ChangeAt Go.RowKit
open Go.ChangeMaps (open_string shut_string)
set_option linter.unusedVariables false

theorem own : ownKnob Try.prog.godebug = none := by kernel_rfl

theorem laidOut : laidOutB Try.prog = true := by kernel_rfl
set_option maxHeartbeats 3200000 in
set_option maxRecDepth 100000 in
theorem walk0 (w : World) (a : Option Addr) (len cap : Nat) (hcode : CodeIn w.heap.size w a len) (hcap : len ≤ cap) :
    Calls Try.prog 3 #[.slice a len cap] w fun e w' => e = .returned (.bool true) ∧ Below w.heap.size w w' := by
  have hlen := hcode.1
  replace hcode := hidI hcode
  have hb0 := Below.refl w.heap.size w
  obtain ⟨q, hq⟩ : ∃ q, q = len / 2 := ⟨_, rfl⟩
  have hq1 : (len : Int).tdiv 2 = (q : Int) := by rw [Int.tdiv_eq_ediv_of_nonneg (by omega)]; omega
  have hq2 : (len : Int) / 2 = (q : Int) := by omega
  have hq3 : (q : Int) ≤ (len : Int) := by omega
  have hq4 : q ≤ len := by omega
  have hqc : (q : Int) ≤ (cap : Int) := by omega
  clear hq
  go_enter Try.func3, Try.ntmps3
  go_wp2_with fail
  refine (big_no _ a len cap hlen).mono ?_
  rintro e w0 ⟨rfl, rfl⟩
  go_wp2_with fail
  refine (drawMul_any w a len cap hcode.out).mono ?_
  rintro e w1 ⟨vra, vrb, A0, B0, pra, prb, rfl, hra, hrb, hbn⟩
  have ira : InR A0 := pra.inR
  have lra : A0.length ≤ 9 := pra.2
  replace ira := hidI ira
  replace lra := hidI lra
  replace pra := hidI pra
  replace hra := hidI hra
  have irb : InR B0 := prb.inR
  have lrb : B0.length ≤ 9 := prb.2
  replace irb := hidI irb
  replace lrb := hidI lrb
  replace prb := hidI prb
  replace hrb := hidI hrb
  have hb1 := hb0.trans (hbn.mono hb0.size)
  replace hcode := hidI (codeIn_mono (hcode.out.below hbn) hbn.size)
  clear hbn
  go_wp2_with fail
  refine (drawInv_any w1 a q cap (codeIn_part hcode.out hq4)).mono ?_
  rintro e w2 ⟨vrc0, C0, prc0, rfl, hrc0, hbn⟩
  have irc0 : InR C0 := prc0.inR
  have lrc0 : C0.length ≤ 9 := prc0.2
  replace irc0 := hidI irc0
  replace lrc0 := hidI lrc0
  replace prc0 := hidI prc0
  replace hrc0 := hidI hrc0
  have hb2 := hb1.trans (hbn.mono hb1.size)
  replace hra := hidI ((hra.out.below hbn).mono hbn.size)
  replace hrb := hidI ((hrb.out.below hbn).mono hbn.size)
  replace hcode := hidI (codeIn_mono (hcode.out.below hbn) hbn.size)
  clear hbn hb1
  obtain ⟨C1, erc⟩ : ∃ F, F = redL C0 := ⟨_, rfl⟩
  have irc : InR C1 := by rw [erc]; exact redL_in irc0.out
  have lrc : C1.length ≤ 9 := by rw [erc]; have := redL_length C0; have := lrc0.out; omega
  replace irc := hidI irc
  replace lrc := hidI lrc
  replace erc := hidI erc
  go_wp2_with fail
  refine (specRed w2 vrc0 C0 hrc0.out (by have := lrc0.out; omega)).mono ?_
  rw [← erc.out]
  rintro e w3 ⟨vrc, rfl, hrow, hbn⟩
  have hrc := hidI hrow.read
  clear hrow
  have hb3 := hb2.trans (hbn.mono hb2.size)
  replace hra := hidI ((hra.out.below hbn).mono hbn.size)
  replace hrb := hidI ((hrb.out.below hbn).mono hbn.size)
  replace hrc0 := hidI ((hrc0.out.below hbn).mono hbn.size)
  replace hcode := hidI (codeIn_mono (hcode.out.below hbn) hbn.size)
  clear hbn hb2
  clear hrc0
  obtain ⟨X, erx⟩ : ∃ F, F = mulL A0 B0 := ⟨_, rfl⟩
  have irx : InR X := by rw [erx]; exact mulL_in ira.out irb.out
  have lrx : X.length ≤ 18 := by rw [erx]; have := mulL_length A0 B0; have := lra.out; have := lrb.out; omega
  replace irx := hidI irx
  replace lrx := hidI lrx
  replace erx := hidI erx
  go_wp2_with fail
  refine (multiply_any w3 vra vrb A0 B0 hra.out hrb.out ira.out irb.out (by have := lra.out; have := lrb.out; omega)).mono ?_
  rw [← erx.out]
  rintro e w4 ⟨vrx, rfl, hrow, hbn⟩
  have hrx := hidI hrow.read
  clear hrow
  have hb4 := hb3.trans (hbn.mono hb3.size)
  replace hra := hidI ((hra.out.below hbn).mono hbn.size)
  replace hrb := hidI ((hrb.out.below hbn).mono hbn.size)
  replace hrc := hidI ((hrc.out.below hbn).mono hbn.size)
  replace hcode := hidI (codeIn_mono (hcode.out.below hbn) hbn.size)
  clear hbn hb3
  go_wp2_with fail
  refine (specMul w4 vra vrb A0 B0 hra.out hrb.out (by have := lra.out; omega) (by have := lrb.out; omega)).mono ?_
  rw [← erx.out]
  rintro e w5 ⟨vry, rfl, hrow, hbn⟩
  have hry := hidI hrow.read
  clear hrow
  have hb5 := hb4.trans (hbn.mono hb4.size)
  replace hra := hidI ((hra.out.below hbn).mono hbn.size)
  replace hrb := hidI ((hrb.out.below hbn).mono hbn.size)
  replace hrc := hidI ((hrc.out.below hbn).mono hbn.size)
  replace hrx := hidI ((hrx.out.below hbn).mono hbn.size)
  replace hcode := hidI (codeIn_mono (hcode.out.below hbn) hbn.size)
  clear hbn hb4
  go_wp2_with fail
  refine (sameInts_law w5 vrx vry X hrx.out hry.out).mono ?_
  rintro e w6 ⟨rfl, hbn, hsz6⟩
  have hb6 := hb5.trans (hbn.mono hb5.size)
  replace hra := hidI ((hra.out.below hbn).mono hbn.size)
  replace hrb := hidI ((hrb.out.below hbn).mono hbn.size)
  replace hrc := hidI ((hrc.out.below hbn).mono hbn.size)
  replace hrx := hidI ((hrx.out.below hbn).mono hbn.size)
  replace hry := hidI ((hry.out.below hbn).mono hbn.size)
  replace hcode := hidI (codeIn_mono (hcode.out.below hbn) hbn.size)
  clear hbn hb5
  clear hrx
  clear hry
  obtain ⟨A1, esa⟩ : ∃ F, F = redL A0 := ⟨_, rfl⟩
  have isa : InR A1 := by rw [esa]; exact redL_in ira.out
  have lsa : A1.length ≤ 9 := by rw [esa]; have := redL_length A0; have := lra.out; omega
  replace isa := hidI isa
  replace lsa := hidI lsa
  replace esa := hidI esa
  go_wp2_with fail
  refine (specRed w6 vra A0 hra.out (by have := lra.out; omega)).mono ?_
  rw [← esa.out]
  rintro e w7 ⟨vsa, rfl, hrow, hbn⟩
  have hsa := hidI hrow.read
  clear hrow
  have hb7 := hb6.trans (hbn.mono hb6.size)
  replace hra := hidI ((hra.out.below hbn).mono hbn.size)
  replace hrb := hidI ((hrb.out.below hbn).mono hbn.size)
  replace hrc := hidI ((hrc.out.below hbn).mono hbn.size)
  replace hcode := hidI (codeIn_mono (hcode.out.below hbn) hbn.size)
  clear hbn hb6
  obtain ⟨B1, esb⟩ : ∃ F, F = redL B0 := ⟨_, rfl⟩
  have isb : InR B1 := by rw [esb]; exact redL_in irb.out
  have lsb : B1.length ≤ 9 := by rw [esb]; have := redL_length B0; have := lrb.out; omega
  replace isb := hidI isb
  replace lsb := hidI lsb
  replace esb := hidI esb
  go_wp2_with fail
  refine (specRed w7 vrb B0 hrb.out (by have := lrb.out; omega)).mono ?_
  rw [← esb.out]
  rintro e w8 ⟨vsb, rfl, hrow, hbn⟩
  have hsb := hidI hrow.read
  clear hrow
  have hb8 := hb7.trans (hbn.mono hb7.size)
  replace hra := hidI ((hra.out.below hbn).mono hbn.size)
  replace hrb := hidI ((hrb.out.below hbn).mono hbn.size)
  replace hrc := hidI ((hrc.out.below hbn).mono hbn.size)
  replace hsa := hidI ((hsa.out.below hbn).mono hbn.size)
  replace hcode := hidI (codeIn_mono (hcode.out.below hbn) hbn.size)
  clear hbn hb7
  clear hra
  clear hrb
  obtain ⟨AB, eab⟩ : ∃ F, F = mulL A1 B1 := ⟨_, rfl⟩
  have iab : InR AB := by rw [eab]; exact mulL_in isa.out isb.out
  have lab : AB.length ≤ 18 := by rw [eab]; have := mulL_length A1 B1; have := lsa.out; have := lsb.out; omega
  replace iab := hidI iab
  replace lab := hidI lab
  replace eab := hidI eab
  go_wp2_with fail
  refine (multiply_any w8 vsa vsb A1 B1 hsa.out hsb.out isa.out isb.out (by have := lsa.out; have := lsb.out; omega)).mono ?_
  rw [← eab.out]
  rintro e w9 ⟨vab, rfl, hrow, hbn⟩
  have hab := hidI hrow.read
  clear hrow
  have hb9 := hb8.trans (hbn.mono hb8.size)
  replace hrc := hidI ((hrc.out.below hbn).mono hbn.size)
  replace hsa := hidI ((hsa.out.below hbn).mono hbn.size)
  replace hsb := hidI ((hsb.out.below hbn).mono hbn.size)
  replace hcode := hidI (codeIn_mono (hcode.out.below hbn) hbn.size)
  clear hbn hb8
  obtain ⟨L, ele⟩ : ∃ F, F = mulL AB C1 := ⟨_, rfl⟩
  have ile : InR L := by rw [ele]; exact mulL_in iab.out irc.out
  have lle : L.length ≤ 27 := by rw [ele]; have := mulL_length AB C1; have := lab.out; have := lrc.out; omega
  replace ile := hidI ile
  replace lle := hidI lle
  replace ele := hidI ele
  go_wp2_with fail
  refine (multiply_any w9 vab vrc AB C1 hab.out hrc.out iab.out irc.out (by have := lab.out; have := lrc.out; omega)).mono ?_
  rw [← ele.out]
  rintro e w10 ⟨vle, rfl, hrow, hbn⟩
  have hle := hidI hrow.read
  clear hrow
  have hb10 := hb9.trans (hbn.mono hb9.size)
  replace hrc := hidI ((hrc.out.below hbn).mono hbn.size)
  replace hsa := hidI ((hsa.out.below hbn).mono hbn.size)
  replace hsb := hidI ((hsb.out.below hbn).mono hbn.size)
  replace hab := hidI ((hab.out.below hbn).mono hbn.size)
  replace hcode := hidI (codeIn_mono (hcode.out.below hbn) hbn.size)
  clear hbn hb9
  obtain ⟨BC, ebc⟩ : ∃ F, F = mulL B1 C1 := ⟨_, rfl⟩
  have ibc : InR BC := by rw [ebc]; exact mulL_in isb.out irc.out
  have lbc : BC.length ≤ 18 := by rw [ebc]; have := mulL_length B1 C1; have := lsb.out; have := lrc.out; omega
  replace ibc := hidI ibc
  replace lbc := hidI lbc
  replace ebc := hidI ebc
  go_wp2_with fail
  refine (multiply_any w10 vsb vrc B1 C1 hsb.out hrc.out isb.out irc.out (by have := lsb.out; have := lrc.out; omega)).mono ?_
  rw [← ebc.out]
  rintro e w11 ⟨vbc, rfl, hrow, hbn⟩
  have hbc := hidI hrow.read
  clear hrow
  have hb11 := hb10.trans (hbn.mono hb10.size)
  replace hrc := hidI ((hrc.out.below hbn).mono hbn.size)
  replace hsa := hidI ((hsa.out.below hbn).mono hbn.size)
  replace hsb := hidI ((hsb.out.below hbn).mono hbn.size)
  replace hab := hidI ((hab.out.below hbn).mono hbn.size)
  replace hle := hidI ((hle.out.below hbn).mono hbn.size)
  replace hcode := hidI (codeIn_mono (hcode.out.below hbn) hbn.size)
  clear hbn hb10
  have hassoc : mulL A1 BC = L := by rw [ebc.out, ele.out, eab.out]; exact (mulL_assoc isa.out isb.out irc.out).symm
  replace hassoc := hidI hassoc
  go_wp2_with fail
  refine (multiply_any w11 vsa vbc A1 BC hsa.out hbc.out isa.out ibc.out (by have := lsa.out; have := lbc.out; omega)).mono ?_
  rw [hassoc.out]
  rintro e w12 ⟨vri, rfl, hrow, hbn⟩
  have hri := hidI hrow.read
  clear hrow
  have hb12 := hb11.trans (hbn.mono hb11.size)
  replace hrc := hidI ((hrc.out.below hbn).mono hbn.size)
  replace hsa := hidI ((hsa.out.below hbn).mono hbn.size)
  replace hsb := hidI ((hsb.out.below hbn).mono hbn.size)
  replace hab := hidI ((hab.out.below hbn).mono hbn.size)
  replace hle := hidI ((hle.out.below hbn).mono hbn.size)
  replace hbc := hidI ((hbc.out.below hbn).mono hbn.size)
  replace hcode := hidI (codeIn_mono (hcode.out.below hbn) hbn.size)
  clear hbn hb11
  go_wp2_with fail
  refine (sameInts_law w12 vle vri L hle.out hri.out).mono ?_
  rintro e w13 ⟨rfl, hbn, hsz13⟩
  have hb13 := hb12.trans (hbn.mono hb12.size)
  replace hrc := hidI ((hrc.out.below hbn).mono hbn.size)
  replace hsa := hidI ((hsa.out.below hbn).mono hbn.size)
  replace hsb := hidI ((hsb.out.below hbn).mono hbn.size)
  replace hab := hidI ((hab.out.below hbn).mono hbn.size)
  replace hle := hidI ((hle.out.below hbn).mono hbn.size)
  replace hbc := hidI ((hbc.out.below hbn).mono hbn.size)
  replace hri := hidI ((hri.out.below hbn).mono hbn.size)
  replace hcode := hidI (codeIn_mono (hcode.out.below hbn) hbn.size)
  clear hbn hb12
  clear hle
  clear hri
  clear hbc
  clear hab
  go_wp2_with fail
  refine (multiply_any w13 vsa vsb A1 B1 hsa.out hsb.out isa.out isb.out (by have := lsa.out; have := lsb.out; omega)).mono ?_
  rw [← eab.out]
  rintro e w14 ⟨vab2, rfl, hrow, hbn⟩
  have hab2 := hidI hrow.read
  clear hrow
  have hb14 := hb13.trans (hbn.mono hb13.size)
  replace hrc := hidI ((hrc.out.below hbn).mono hbn.size)
  replace hsa := hidI ((hsa.out.below hbn).mono hbn.size)
  replace hsb := hidI ((hsb.out.below hbn).mono hbn.size)
  replace hcode := hidI (codeIn_mono (hcode.out.below hbn) hbn.size)
  clear hbn hb13
  obtain ⟨V1, eiv1⟩ : ∃ F, F = invL AB := ⟨_, rfl⟩
  have iiv1 : InR V1 := by rw [eiv1]; exact InR.invL
  have liv1 : V1.length ≤ 18 := by rw [eiv1]; rw [invL_length]; exact lab.out
  replace iiv1 := hidI iiv1
  replace liv1 := hidI liv1
  replace eiv1 := hidI eiv1
  go_wp2_with fail
  refine (invert_any w14 vab2 AB hab2.out (by have := lab.out; omega)).mono ?_
  rw [← eiv1.out]
  rintro e w15 ⟨viv1, rfl, hrow, hbn⟩
  have hiv1 := hidI hrow.read
  clear hrow
  have hb15 := hb14.trans (hbn.mono hb14.size)
  replace hrc := hidI ((hrc.out.below hbn).mono hbn.size)
  replace hsa := hidI ((hsa.out.below hbn).mono hbn.size)
  replace hsb := hidI ((hsb.out.below hbn).mono hbn.size)
  replace hab2 := hidI ((hab2.out.below hbn).mono hbn.size)
  replace hcode := hidI (codeIn_mono (hcode.out.below hbn) hbn.size)
  clear hbn hb14
  obtain ⟨IB, eib⟩ : ∃ F, F = invL B1 := ⟨_, rfl⟩
  have iib : InR IB := by rw [eib]; exact InR.invL
  have lib : IB.length ≤ 9 := by rw [eib]; rw [invL_length]; exact lsb.out
  replace iib := hidI iib
  replace lib := hidI lib
  replace eib := hidI eib
  go_wp2_with fail
  refine (invert_any w15 vsb B1 hsb.out (by have := lsb.out; omega)).mono ?_
  rw [← eib.out]
  rintro e w16 ⟨vib, rfl, hrow, hbn⟩
  have hib := hidI hrow.read
  clear hrow
  have hb16 := hb15.trans (hbn.mono hb15.size)
  replace hrc := hidI ((hrc.out.below hbn).mono hbn.size)
  replace hsa := hidI ((hsa.out.below hbn).mono hbn.size)
  replace hsb := hidI ((hsb.out.below hbn).mono hbn.size)
  replace hab2 := hidI ((hab2.out.below hbn).mono hbn.size)
  replace hiv1 := hidI ((hiv1.out.below hbn).mono hbn.size)
  replace hcode := hidI (codeIn_mono (hcode.out.below hbn) hbn.size)
  clear hbn hb15
  obtain ⟨IA, eia⟩ : ∃ F, F = invL A1 := ⟨_, rfl⟩
  have iia : InR IA := by rw [eia]; exact InR.invL
  have lia : IA.length ≤ 9 := by rw [eia]; rw [invL_length]; exact lsa.out
  replace iia := hidI iia
  replace lia := hidI lia
  replace eia := hidI eia
  go_wp2_with fail
  refine (invert_any w16 vsa A1 hsa.out (by have := lsa.out; omega)).mono ?_
  rw [← eia.out]
  rintro e w17 ⟨via, rfl, hrow, hbn⟩
  have hia := hidI hrow.read
  clear hrow
  have hb17 := hb16.trans (hbn.mono hb16.size)
  replace hrc := hidI ((hrc.out.below hbn).mono hbn.size)
  replace hsa := hidI ((hsa.out.below hbn).mono hbn.size)
  replace hsb := hidI ((hsb.out.below hbn).mono hbn.size)
  replace hab2 := hidI ((hab2.out.below hbn).mono hbn.size)
  replace hiv1 := hidI ((hiv1.out.below hbn).mono hbn.size)
  replace hib := hidI ((hib.out.below hbn).mono hbn.size)
  replace hcode := hidI (codeIn_mono (hcode.out.below hbn) hbn.size)
  clear hbn hb16
  have hinv : mulL IB IA = V1 := by rw [eib.out, eia.out, eiv1.out, eab.out]; exact (invL_mulL isa.out isb.out).symm
  replace hinv := hidI hinv
  go_wp2_with fail
  refine (multiply_any w17 vib via IB IA hib.out hia.out iib.out iia.out (by have := lib.out; have := lia.out; omega)).mono ?_
  rw [hinv.out]
  rintro e w18 ⟨viv2, rfl, hrow, hbn⟩
  have hiv2 := hidI hrow.read
  clear hrow
  have hb18 := hb17.trans (hbn.mono hb17.size)
  replace hrc := hidI ((hrc.out.below hbn).mono hbn.size)
  replace hsa := hidI ((hsa.out.below hbn).mono hbn.size)
  replace hsb := hidI ((hsb.out.below hbn).mono hbn.size)
  replace hab2 := hidI ((hab2.out.below hbn).mono hbn.size)
  replace hiv1 := hidI ((hiv1.out.below hbn).mono hbn.size)
  replace hib := hidI ((hib.out.below hbn).mono hbn.size)
  replace hia := hidI ((hia.out.below hbn).mono hbn.size)
  replace hcode := hidI (codeIn_mono (hcode.out.below hbn) hbn.size)
  clear hbn hb17
  go_wp2_with fail
  refine (sameInts_law w18 viv1 viv2 V1 hiv1.out hiv2.out).mono ?_
  rintro e w19 ⟨rfl, hbn, hsz19⟩
  have hb19 := hb18.trans (hbn.mono hb18.size)
  replace hrc := hidI ((hrc.out.below hbn).mono hbn.size)
  replace hsa := hidI ((hsa.out.below hbn).mono hbn.size)
  replace hsb := hidI ((hsb.out.below hbn).mono hbn.size)
  replace hab2 := hidI ((hab2.out.below hbn).mono hbn.size)
  replace hiv1 := hidI ((hiv1.out.below hbn).mono hbn.size)
  replace hib := hidI ((hib.out.below hbn).mono hbn.size)
  replace hia := hidI ((hia.out.below hbn).mono hbn.size)
  replace hiv2 := hidI ((hiv2.out.below hbn).mono hbn.size)
  replace hcode := hidI (codeIn_mono (hcode.out.below hbn) hbn.size)
  clear hbn hb18
  clear hiv1
  clear hiv2
  clear hib
  clear hia
  clear hab2
  clear hsa
  clear hsb
  clear hrc
  go_wp2_with fail
  refine (drawPow_any w19 a len cap hcode.out).mono ?_
  rintro e w20 ⟨vu, U, kk, pu, rfl, hu, hbn⟩
  have iu : InR U := pu.1.inR
  have lu : U.length ≤ 9 := pu.1.2
  have hk1 : -25 ≤ kk := pu.2.1
  have hk2 : kk ≤ 25 := pu.2.2
  replace iu := hidI iu
  replace lu := hidI lu
  replace pu := hidI pu
  replace hu := hidI hu
  have hb20 := hb19.trans (hbn.mono hb19.size)
  replace hcode := hidI (codeIn_mono (hcode.out.below hbn) hbn.size)
  clear hbn hb19
  obtain ⟨PW, epw⟩ : ∃ F, F = powL U kk := ⟨_, rfl⟩
  have ipw : InR PW := by rw [epw]; exact (by unfold powL; split; exact InR.nil; split; exact redL_in (by rw [rep_flat]; exact flat_rep_in InR.invL _); exact redL_in (by rw [rep_flat]; exact flat_rep_in iu.out _))
  have lpw : PW.length ≤ 216 := by rw [epw]; have := powL_length U kk; have := lu.out; omega
  replace ipw := hidI ipw
  replace lpw := hidI lpw
  replace epw := hidI epw
  go_wp2_with fail
  refine (power_any w20 vu U kk hu.out iu.out (by have := lu.out; omega)).mono ?_
  rw [← epw.out]
  rintro e w21 ⟨vpw, rfl, hrow, hbn⟩
  have hpw := hidI hrow.read
  clear hrow
  have hb21 := hb20.trans (hbn.mono hb20.size)
  replace hu := hidI ((hu.out.below hbn).mono hbn.size)
  replace hcode := hidI (codeIn_mono (hcode.out.below hbn) hbn.size)
  clear hbn hb20
  go_wp2_with fail
  refine (specPowAny w21 vu U kk hu.out (by have := lu.out; omega) (by omega) (by omega)).mono ?_
  rw [← epw.out]
  rintro e w22 ⟨vpw2, rfl, hrow, hbn⟩
  have hpw2 := hidI hrow.read
  clear hrow
  have hb22 := hb21.trans (hbn.mono hb21.size)
  replace hu := hidI ((hu.out.below hbn).mono hbn.size)
  replace hpw := hidI ((hpw.out.below hbn).mono hbn.size)
  replace hcode := hidI (codeIn_mono (hcode.out.below hbn) hbn.size)
  clear hbn hb21
  go_wp2_with fail
  refine (sameInts_law w22 vpw vpw2 PW hpw.out hpw2.out).mono ?_
  rintro e w23 ⟨rfl, hbn, hsz23⟩
  have hb23 := hb22.trans (hbn.mono hb22.size)
  replace hu := hidI ((hu.out.below hbn).mono hbn.size)
  replace hpw := hidI ((hpw.out.below hbn).mono hbn.size)
  replace hpw2 := hidI ((hpw2.out.below hbn).mono hbn.size)
  replace hcode := hidI (codeIn_mono (hcode.out.below hbn) hbn.size)
  clear hbn hb22
  clear hpw
  clear hpw2
  clear hu
  go_wp2_with fail
  refine (drawCom_any w23 a len cap hcode.out).mono ?_
  rintro e w24 ⟨vcv, vcw, CV, CW, pcv, pcw, rfl, hcv, hcw, hbn⟩
  have icv : InR CV := pcv.inR
  have lcv : CV.length ≤ 9 := pcv.2
  replace icv := hidI icv
  replace lcv := hidI lcv
  replace pcv := hidI pcv
  replace hcv := hidI hcv
  have icw : InR CW := pcw.inR
  have lcw : CW.length ≤ 9 := pcw.2
  replace icw := hidI icw
  replace lcw := hidI lcw
  replace pcw := hidI pcw
  replace hcw := hidI hcw
  have hb24 := hb23.trans (hbn.mono hb23.size)
  replace hcode := hidI (codeIn_mono (hcode.out.below hbn) hbn.size)
  clear hbn hb23
  go_wp2_with fail
  refine (drawCon_any w24 a len cap hcode.out).mono ?_
  rintro e w25 ⟨vdy, vdb, DY, DB, pdy, pdb, rfl, hdy, hdb, hbn⟩
  have idy : InR DY := pdy.inR
  have ldy : DY.length ≤ 9 := pdy.2
  replace idy := hidI idy
  replace ldy := hidI ldy
  replace pdy := hidI pdy
  replace hdy := hidI hdy
  have idb : InR DB := pdb.inR
  have ldb : DB.length ≤ 9 := pdb.2
  replace idb := hidI idb
  replace ldb := hidI ldb
  replace pdb := hidI pdb
  replace hdb := hidI hdb
  have hb25 := hb24.trans (hbn.mono hb24.size)
  replace hcv := hidI ((hcv.out.below hbn).mono hbn.size)
  replace hcw := hidI ((hcw.out.below hbn).mono hbn.size)
  replace hcode := hidI (codeIn_mono (hcode.out.below hbn) hbn.size)
  clear hbn hb24
  go_wp2_with fail
  refine (drawIs_any w25 a len cap hcode.out).mono ?_
  rintro e w26 ⟨rk, vz, Z, pz, rfl, hz, hbn⟩
  have iz : InR Z := pz.2.2.inR
  have lz : Z.length ≤ 9 := pz.2.2.2
  replace iz := hidI iz
  replace lz := hidI lz
  replace pz := hidI pz
  replace hz := hidI hz
  have hb26 := hb25.trans (hbn.mono hb25.size)
  replace hcv := hidI ((hcv.out.below hbn).mono hbn.size)
  replace hcw := hidI ((hcw.out.below hbn).mono hbn.size)
  replace hdy := hidI ((hdy.out.below hbn).mono hbn.size)
  replace hdb := hidI ((hdb.out.below hbn).mono hbn.size)
  replace hcode := hidI (codeIn_mono (hcode.out.below hbn) hbn.size)
  clear hbn hb25
  go_wp2_with fail
  refine (drawRed_any w26 a len cap hcode.out).mono ?_
  rintro e w27 ⟨vrr, R, prr, rfl, hrr, hbn⟩
  have irr : InR R := prr.inR
  have lrr : R.length ≤ 11 := prr.2
  replace irr := hidI irr
  replace lrr := hidI lrr
  replace prr := hidI prr
  replace hrr := hidI hrr
  have hb27 := hb26.trans (hbn.mono hb26.size)
  replace hcv := hidI ((hcv.out.below hbn).mono hbn.size)
  replace hcw := hidI ((hcw.out.below hbn).mono hbn.size)
  replace hdy := hidI ((hdy.out.below hbn).mono hbn.size)
  replace hdb := hidI ((hdb.out.below hbn).mono hbn.size)
  replace hz := hidI ((hz.out.below hbn).mono hbn.size)
  replace hcode := hidI (codeIn_mono (hcode.out.below hbn) hbn.size)
  clear hbn hb26
  obtain ⟨CC, ec1⟩ : ∃ F, F = comL CV CW := ⟨_, rfl⟩
  have ic1 : InR CC := by rw [ec1]; exact (by unfold comL; exact mulL_in (mulL_in icv.out icw.out) (mulL_in InR.invL InR.invL))
  have lc1 : CC.length ≤ 36 := by rw [ec1]; have h1 := mulL_length CV CW; have h2 := mulL_length (invL CV) (invL CW); have h3 := mulL_length (mulL CV CW) (mulL (invL CV) (invL CW)); have h4 := invL_length CV; have h5 := invL_length CW; have := lcv.out; have := lcw.out; unfold comL; omega
  replace ic1 := hidI ic1
  replace lc1 := hidI lc1
  replace ec1 := hidI ec1
  go_wp2_with fail
  refine (commutator_any w27 vcv vcw CV CW hcv.out hcw.out icv.out icw.out (by have := lcv.out; omega) (by have := lcw.out; omega)).mono ?_
  rw [← ec1.out]
  rintro e w28 ⟨vc1, rfl, hrow, hbn⟩
  have hc1 := hidI hrow.read
  clear hrow
  have hb28 := hb27.trans (hbn.mono hb27.size)
  replace hcv := hidI ((hcv.out.below hbn).mono hbn.size)
  replace hcw := hidI ((hcw.out.below hbn).mono hbn.size)
  replace hdy := hidI ((hdy.out.below hbn).mono hbn.size)
  replace hdb := hidI ((hdb.out.below hbn).mono hbn.size)
  replace hz := hidI ((hz.out.below hbn).mono hbn.size)
  replace hrr := hidI ((hrr.out.below hbn).mono hbn.size)
  replace hcode := hidI (codeIn_mono (hcode.out.below hbn) hbn.size)
  clear hbn hb27
  go_wp2_with fail
  refine (specCom w28 vcv vcw CV CW hcv.out hcw.out (by have := lcv.out; omega) (by have := lcw.out; omega)).mono ?_
  rw [← ec1.out]
  rintro e w29 ⟨vc2, rfl, hrow, hbn⟩
  have hc2 := hidI hrow.read
  clear hrow
  have hb29 := hb28.trans (hbn.mono hb28.size)
  replace hcv := hidI ((hcv.out.below hbn).mono hbn.size)
  replace hcw := hidI ((hcw.out.below hbn).mono hbn.size)
  replace hdy := hidI ((hdy.out.below hbn).mono hbn.size)
  replace hdb := hidI ((hdb.out.below hbn).mono hbn.size)
  replace hz := hidI ((hz.out.below hbn).mono hbn.size)
  replace hrr := hidI ((hrr.out.below hbn).mono hbn.size)
  replace hc1 := hidI ((hc1.out.below hbn).mono hbn.size)
  replace hcode := hidI (codeIn_mono (hcode.out.below hbn) hbn.size)
  clear hbn hb28
  go_wp2_with fail
  refine (sameInts_law w29 vc1 vc2 CC hc1.out hc2.out).mono ?_
  rintro e w30 ⟨rfl, hbn, hsz30⟩
  have hb30 := hb29.trans (hbn.mono hb29.size)
  replace hcv := hidI ((hcv.out.below hbn).mono hbn.size)
  replace hcw := hidI ((hcw.out.below hbn).mono hbn.size)
  replace hdy := hidI ((hdy.out.below hbn).mono hbn.size)
  replace hdb := hidI ((hdb.out.below hbn).mono hbn.size)
  replace hz := hidI ((hz.out.below hbn).mono hbn.size)
  replace hrr := hidI ((hrr.out.below hbn).mono hbn.size)
  replace hc1 := hidI ((hc1.out.below hbn).mono hbn.size)
  replace hc2 := hidI ((hc2.out.below hbn).mono hbn.size)
  replace hcode := hidI (codeIn_mono (hcode.out.below hbn) hbn.size)
  clear hbn hb29
  clear hc1
  clear hc2
  clear hcv
  clear hcw
  obtain ⟨DD, ed1⟩ : ∃ F, F = conL DY DB := ⟨_, rfl⟩
  have id1 : InR DD := by rw [ed1]; exact (by unfold conL; exact mulL_in (mulL_in InR.invL idy.out) idb.out)
  have ld1 : DD.length ≤ 36 := by rw [ed1]; have h1 := mulL_length (invL DB) DY; have h2 := mulL_length (mulL (invL DB) DY) DB; have h3 := invL_length DB; have := ldy.out; have := ldb.out; unfold conL; omega
  replace id1 := hidI id1
  replace ld1 := hidI ld1
  replace ed1 := hidI ed1
  go_wp2_with fail
  refine (conjugate_any w30 vdy vdb DY DB hdy.out hdb.out idy.out idb.out (by have := ldy.out; omega) (by have := ldb.out; omega)).mono ?_
  rw [← ed1.out]
  rintro e w31 ⟨vd1, rfl, hrow, hbn⟩
  have hd1 := hidI hrow.read
  clear hrow
  have hb31 := hb30.trans (hbn.mono hb30.size)
  replace hdy := hidI ((hdy.out.below hbn).mono hbn.size)
  replace hdb := hidI ((hdb.out.below hbn).mono hbn.size)
  replace hz := hidI ((hz.out.below hbn).mono hbn.size)
  replace hrr := hidI ((hrr.out.below hbn).mono hbn.size)
  replace hcode := hidI (codeIn_mono (hcode.out.below hbn) hbn.size)
  clear hbn hb30
  go_wp2_with fail
  refine (specCon w31 vdy vdb DY DB hdy.out hdb.out (by have := ldy.out; omega) (by have := ldb.out; omega)).mono ?_
  rw [← ed1.out]
  rintro e w32 ⟨vd2, rfl, hrow, hbn⟩
  have hd2 := hidI hrow.read
  clear hrow
  have hb32 := hb31.trans (hbn.mono hb31.size)
  replace hdy := hidI ((hdy.out.below hbn).mono hbn.size)
  replace hdb := hidI ((hdb.out.below hbn).mono hbn.size)
  replace hz := hidI ((hz.out.below hbn).mono hbn.size)
  replace hrr := hidI ((hrr.out.below hbn).mono hbn.size)
  replace hd1 := hidI ((hd1.out.below hbn).mono hbn.size)
  replace hcode := hidI (codeIn_mono (hcode.out.below hbn) hbn.size)
  clear hbn hb31
  go_wp2_with fail
  refine (sameInts_law w32 vd1 vd2 DD hd1.out hd2.out).mono ?_
  rintro e w33 ⟨rfl, hbn, hsz33⟩
  have hb33 := hb32.trans (hbn.mono hb32.size)
  replace hdy := hidI ((hdy.out.below hbn).mono hbn.size)
  replace hdb := hidI ((hdb.out.below hbn).mono hbn.size)
  replace hz := hidI ((hz.out.below hbn).mono hbn.size)
  replace hrr := hidI ((hrr.out.below hbn).mono hbn.size)
  replace hd1 := hidI ((hd1.out.below hbn).mono hbn.size)
  replace hd2 := hidI ((hd2.out.below hbn).mono hbn.size)
  replace hcode := hidI (codeIn_mono (hcode.out.below hbn) hbn.size)
  clear hbn hb32
  clear hd1
  clear hd2
  clear hdy
  clear hdb
  obtain ⟨bz, ebz⟩ : ∃ b, b = isW rk Z := ⟨_, rfl⟩
  have hbz : (bz == bz) = true := by simp
  replace ebz := hidI ebz
  go_wp2_with fail
  refine (isWord_any w33 w33.heap.size vz Z rk hz.out).mono ?_
  rw [← ebz.out]
  rintro e w34 ⟨rfl, nq, hwq⟩
  have hbn : Below w33.heap.size w33 w34 := by rw [hwq]; exact below_dn (Below.refl _ _) nq
  clear hwq
  have hb34 := hb33.trans (hbn.mono hb33.size)
  replace hz := hidI ((hz.out.below hbn).mono hbn.size)
  replace hrr := hidI ((hrr.out.below hbn).mono hbn.size)
  replace hcode := hidI (codeIn_mono (hcode.out.below hbn) hbn.size)
  clear hbn hb33
  go_wp2_with fail
  refine (specIsW w34 w34.heap.size vz Z rk hz.out).mono ?_
  rw [← ebz.out]
  rintro e w35 ⟨rfl, nq, hwq⟩
  have hbn : Below w34.heap.size w34 w35 := by rw [hwq]; exact below_dn (Below.refl _ _) nq
  clear hwq
  have hb35 := hb34.trans (hbn.mono hb34.size)
  replace hz := hidI ((hz.out.below hbn).mono hbn.size)
  replace hrr := hidI ((hrr.out.below hbn).mono hbn.size)
  replace hcode := hidI (codeIn_mono (hcode.out.below hbn) hbn.size)
  clear hbn hb34
  clear hz
  obtain ⟨RR, ee1⟩ : ∃ F, F = redL R := ⟨_, rfl⟩
  have ie1 : InR RR := by rw [ee1]; exact redL_in irr.out
  have le1 : RR.length ≤ 11 := by rw [ee1]; have := redL_length R; have := lrr.out; omega
  replace ie1 := hidI ie1
  replace le1 := hidI le1
  replace ee1 := hidI ee1
  go_wp2_with fail
  refine (reduce_any w35 vrr R hrr.out irr.out (by have := lrr.out; omega)).mono ?_
  rw [← ee1.out]
  rintro e w36 ⟨ve1, rfl, hrow, hbn⟩
  have he1 := hidI hrow.read
  clear hrow
  have hb36 := hb35.trans (hbn.mono hb35.size)
  replace hrr := hidI ((hrr.out.below hbn).mono hbn.size)
  replace hcode := hidI (codeIn_mono (hcode.out.below hbn) hbn.size)
  clear hbn hb35
  go_wp2_with fail
  refine (specRed w36 vrr R hrr.out (by have := lrr.out; omega)).mono ?_
  rw [← ee1.out]
  rintro e w37 ⟨ve2, rfl, hrow, hbn⟩
  have he2 := hidI hrow.read
  clear hrow
  have hb37 := hb36.trans (hbn.mono hb36.size)
  replace hrr := hidI ((hrr.out.below hbn).mono hbn.size)
  replace he1 := hidI ((he1.out.below hbn).mono hbn.size)
  replace hcode := hidI (codeIn_mono (hcode.out.below hbn) hbn.size)
  clear hbn hb36
  go_wp2_with fail
  refine (sameInts_law w37 ve1 ve2 RR he1.out he2.out).mono ?_
  rintro e w38 ⟨rfl, hbn, hsz38⟩
  have hb38 := hb37.trans (hbn.mono hb37.size)
  replace hrr := hidI ((hrr.out.below hbn).mono hbn.size)
  replace he1 := hidI ((he1.out.below hbn).mono hbn.size)
  replace he2 := hidI ((he2.out.below hbn).mono hbn.size)
  replace hcode := hidI (codeIn_mono (hcode.out.below hbn) hbn.size)
  clear hbn hb37
  clear he1
  clear he2
  go_wp2_with fail
  refine (specRed w38 vrr R hrr.out (by have := lrr.out; omega)).mono ?_
  rw [← ee1.out]
  rintro e w39 ⟨vf1, rfl, hrow, hbn⟩
  have hf1 := hidI hrow.read
  clear hrow
  have hb39 := hb38.trans (hbn.mono hb38.size)
  replace hrr := hidI ((hrr.out.below hbn).mono hbn.size)
  replace hcode := hidI (codeIn_mono (hcode.out.below hbn) hbn.size)
  clear hbn hb38
  have hidem : redL RR = RR := by rw [ee1.out]; exact redL_redL irr.out
  replace hidem := hidI hidem
  go_wp2_with fail
  refine (reduce_any w39 vf1 RR hf1.out ie1.out (by have := le1.out; omega)).mono ?_
  rw [hidem.out]
  rintro e w40 ⟨vf2, rfl, hrow, hbn⟩
  have hf2 := hidI hrow.read
  clear hrow
  have hb40 := hb39.trans (hbn.mono hb39.size)
  replace hrr := hidI ((hrr.out.below hbn).mono hbn.size)
  replace hf1 := hidI ((hf1.out.below hbn).mono hbn.size)
  replace hcode := hidI (codeIn_mono (hcode.out.below hbn) hbn.size)
  clear hbn hb39
  go_wp2_with fail
  refine (specRed w40 vrr R hrr.out (by have := lrr.out; omega)).mono ?_
  rw [← ee1.out]
  rintro e w41 ⟨vf3, rfl, hrow, hbn⟩
  have hf3 := hidI hrow.read
  clear hrow
  have hb41 := hb40.trans (hbn.mono hb40.size)
  replace hrr := hidI ((hrr.out.below hbn).mono hbn.size)
  replace hf1 := hidI ((hf1.out.below hbn).mono hbn.size)
  replace hf2 := hidI ((hf2.out.below hbn).mono hbn.size)
  replace hcode := hidI (codeIn_mono (hcode.out.below hbn) hbn.size)
  clear hbn hb40
  go_wp2_with fail
  refine (sameInts_law w41 vf2 vf3 RR hf2.out hf3.out).mono ?_
  rintro e w42 ⟨rfl, hbn, hsz42⟩
  have hb42 := hb41.trans (hbn.mono hb41.size)
  replace hrr := hidI ((hrr.out.below hbn).mono hbn.size)
  replace hf1 := hidI ((hf1.out.below hbn).mono hbn.size)
  replace hf2 := hidI ((hf2.out.below hbn).mono hbn.size)
  replace hf3 := hidI ((hf3.out.below hbn).mono hbn.size)
  replace hcode := hidI (codeIn_mono (hcode.out.below hbn) hbn.size)
  clear hbn hb41
  go_wp2_with fail
  go_ret
  exact ⟨rfl, hb42⟩
theorem walk (W : World) (a0 : Option Addr) (len0 cap0 : Nat) (z0 : List Int) (w0 : IsRow .u8 W a0 len0 cap0 z0) :
    Calls Try.prog 3 #[.slice a0 len0 cap0] W fun e w' => e = .returned (.bool true) ∧ Below W.heap.size W w' := by
  by_cases hbig : 1048576 < len0
  · go_enter Try.func3, Try.ntmps3
    go_wp2_with fail
    refine (big_yes _ a0 len0 cap0 hbig).mono ?_
    rintro e w1 ⟨rfl, rfl⟩
    go_wp2_with fail
    go_ret
    exact ⟨rfl, Below.refl _ _⟩
  · exact walk0 W a0 len0 cap0 (codeIn_row w0 (by omega)) (row_cap w0)

/-! ### The row's step -/
set_option maxRecDepth 100000 in
theorem lifted (os : Os) (started : os.Started) (H : Type) (enc : TypeId × Value → H) :
    ReturnsInHanded {} Try.checked os 3 .any (Rows.fnWordsSpec.pre6 enc Try.prog Try.f3 Rows.fnWordsRow.domain false) (Rows.fnWordsSpec.post enc Try.prog Try.f3 false true false false) := by
  refine returnsInHanded_of_change (C := Try.checked) own started (by kernel_rfl) Try.func3
    (ChangeSpec.witness6 (enc := enc) (C := Try.checked) false ⟨#[], #[.slice none 0 0], []⟩ 8 (by kernel_rfl) (by kernel_rfl) (by kernel_rfl) (by kernel_rfl)) ?_
  intro W base args ds gs before hval0 hW hcnd _
  have hval : ∀ (j : Nat) t v, Try.f3.params[j]? = some t → args[j]? = some v → Value.okWide Try.prog W .any base t v := hval0
  have hW' := hW
  obtain ⟨p, q, hA0, hV, rfl, hfz, hnd⟩ := hW
  have hA : DataW.TrodAll enc Try.prog W 0 (fun _ => true) true Try.f3.params.toList args.toList ds p := hA0
  rw [Try.params3] at hA hval
  obtain ⟨v0, vs0, d0, ds0, p0, q0, hargs, rfl, rfl, h0, r0⟩ := trodAll_cons hA
  obtain ⟨rfl, rfl, rfl⟩ := trodAll_nil r0
  obtain rfl : args = #[v0] := by cases args; simp_all
  obtain ⟨rfl, rfl⟩ := trodVars_none hV
  obtain ⟨a0, len0, cap0, rfl⟩ := okWide_slice Try.underlying22 (hval 0 22 v0 rfl rfl)
  have k0 := h0
  have lt0 : ∀ x ∈ p0, x.block < W.heap.size := by obtain ⟨m, hm⟩ := k0; exact DataW.trod_lt m _ _ _ hm
  obtain ⟨z0, w0⟩ : ∃ zs, IsRow .u8 W a0 len0 cap0 zs := by
    obtain ⟨fuel, hf⟩ := h0
    rcases open_ints Try.underlying22 Try.underlying5 (by kernel_rfl) hf with ⟨hcs, _⟩ | ⟨x, l, c, zs, hcs, _, hl, hm, hz, _, hcell, hwz⟩
    · simp [Value.cells] at hcs
      obtain ⟨rfl, rfl, rfl⟩ := hcs
      exact ⟨[], .inl ⟨rfl, rfl, rfl, rfl⟩⟩
    · simp [Value.cells] at hcs
      obtain ⟨rfl, rfl, rfl⟩ := hcs
      exact ⟨zs, .inr ⟨_, rfl, hl, hm, by simpa using hz, hcell, hwz⟩⟩
  clear hA0 hval0
  refine (walk W a0 len0 cap0 z0 w0).mono fun e W' ⟨he, hg⟩ => ?_
  subst he
  exact ⟨_, rfl, _, _, _, [], _, [], hW', trodAll_mk1 (shut_bool Try.underlying4 _), (trodAll_cons_mk (Below.trod laidOut (by kernel_rfl) (of_decide_eq_true (by kernel_rfl)) k0 hg lt0) trodAll_mk0), rfl, hg.frame _, fun h => by cases h⟩

theorem over : Rows.fnWordsRow.holds Try.pinned (OpenSpec.ofChange Rows.fnWordsSpec) :=
  OpenClaim.holds_of_wide 3 Try.f3 rfl rfl rfl rfl rfl rfl rfl ⟨rfl, rfl, rfl, rfl, rfl⟩ rfl rfl rfl rfl rfl (by kernel_rfl) Try.func3 (by kernel_rfl)
    (of_decide_eq_true (by kernel_rfl)) (by unfold Func.isWrapper; first | (rw [if_pos (by decide +kernel)]; kernel_rfl) | (rw [if_neg (by decide +kernel)]; exact ⟨rfl, rfl⟩))
    (fun os started H enc _ => lifted os started H enc)

theorem proved : Rows.FnWordsSaid := over
#print axioms proved
end Go.Proofs.Ythjlemcnddkjgaa.fnWords
