import Derived.Test.YtlgieefojcgodaaGreatRB
import Derived.Test.YtlgieefojcgodaaGreatRT
import Derived.Test.YtlgieefojcgodaaGreatTQ
import Derived.Test.YtlgieefojcgodaaGreatRP
import Derived.Test.YtlgieefojcgodaaGreatRO
import Derived.Test.YtlgieefojcgodaaGreatBX
import Derived.WalkKit
import Derived.ProofKit
import Derived.OpenShut
import Derived.ShutString
import Derived.Below
namespace Go.Proofs.YtlgieefojcgodaaGreat.fnCores
open Go.ChangeShapes Go.WideShapes Go.ChangeAt Go.RowKit
open Go.ChangeMaps (open_string shut_string)
set_option linter.unusedVariables false
theorem own : ownKnob Tryz.prog.godebug = none := by kernel_rfl
theorem laidOut : laidOutB Tryz.prog = true := by kernel_rfl
set_option maxHeartbeats 51200000 in
set_option maxRecDepth 100000 in
theorem walk0 (w : World) (a : Option Addr) (len cap : Nat) (hcode : CodeIn w.heap.size w a len) (hcap : len ≤ cap) :
 Calls Tryz.prog 3 #[.slice a len cap] w fun e w' => e = .returned (.bool true) ∧ Below w.heap.size w w' := by
 have hlen := hcode.1
 have st := St.beg hcode
 clear hcode
 go_enter Tryz.func3, Tryz.ntmps3
 go_wp2_with fail
 refine (big_no _ a len cap hlen).mono ?_
 rintro e w0 ⟨rfl, rfl⟩
 have hcc := drawTrim_any w a len cap st.1.1
 go_wp2_with fail
 refine hcc.mono ?_
 rintro e w1 ⟨r, s, es, hP, aG, cG, rfl, hrow0, hbn0⟩
 clear hcc
 have hrow := hrow0.read
 clear hrow0
 obtain ⟨hPr, hPs, hPe⟩ := hP
 have hes : es.length ≤ 1048576 := by omega
 have hsb : -9223372036854775808 ≤ s ∧ s ≤ 9223372036854775807 := by omega
 obtain ⟨nG, hnG⟩ := exq es.length
 rw [← hnG] at hrow ⊢
 obtain ⟨xw1, yw1, YG, hAw, hYw, hCw, t0, t1, t2, ft, bx, hbC⟩ := box_new (r := r) (s := s) hrow hnG
 replace hnG := hidI hnG
 replace st := st.adv hbn0
 replace st := (st.adv hbC).box bx
 clear hbn0 hrow hbC bx
 go_upto_region 4 with (first | rw [hAw.out] | rw [hYw.out] | fail)
 try rw [hYw.out]
 rw [hCw.out]
 clear t0 t1 t2 ft hAw hCw hYw
 have htl := tmE_length r s es
 have htb := tm_bd (r := r) (es := es) hsb
 have hcl := crE_length r s es
 have hcrb : -9223372036854775808 ≤ crS r s es ∧ crS r s es ≤ 9223372036854775807 := by
  cases hg : isGr r s es with
  | true => have := isGr_lim (fo_gr (cr_core hg).1).1; omega
  | false =>
   have h1 := fa_no hg
   have h2 := tm_no (r := r) (s := s) (es := es) hg
   have h3 : isFo r s es = false := by unfold isFo; rw [hg]; rfl
   have h4 := canon_no h3
   have : crS r s es = s := by unfold crS; rw [h1.1, h1.2, h2.1, h2.2.1, h4.1]
   rw [this]; omega
 have hT1 : isGr r s es = true → (∀ v, 1 ≤ v → v < tmS r s es → 2 ≤ degE v (tmE r s es)) ∧ conG r (tmS r s es) (tmE r s es) = true ∧ ((tmL r s es).length : Int) = tmS r s es := fun hg => ⟨fun v h1 h2 => (tm_leaf hg v h1 h2).1, tm_con hg, tm_size hg⟩
 have hC1 : isGr r s es = true → isCo r (crS r s es) (crE r s es) = true ∧ crS r (crS r s es) (crE r s es) = crS r s es ∧ crE r (crS r s es) (crE r s es) = crE r s es := fun hg => ⟨(cr_core hg).2.2, (cr_twice hg).1, (cr_twice hg).2⟩
 obtain ⟨TS, hTS⟩ := exq (tmS r s es)
 obtain ⟨TE, hTE⟩ := exq (tmE r s es)
 obtain ⟨TLs, hTLs⟩ := exq (tmL r s es)
 obtain ⟨CS, hCS⟩ := exq (crS r s es)
 obtain ⟨CE, hCE⟩ := exq (crE r s es)
 obtain ⟨Bg, hBg⟩ := exq (isGr r s es)
 rw [← hTS] at htb hT1
 rw [← hTE] at htl hT1
 rw [← hTLs] at hT1
 rw [← hCS] at hC1 hcrb
 rw [← hCE] at hC1 hcl
 rw [← hBg] at hT1 hC1
 replace hTS := hidI hTS
 replace hTE := hidI hTE
 replace hTLs := hidI hTLs
 replace hCS := hidI hCS
 replace hCE := hidI hCE
 replace hBg := hidI hBg
 replace hT1 := hidI hT1
 replace hC1 := hidI hC1
 obtain ⟨c0G, c1G, c2G⟩ := (st.1.1).c
 have hcc := progTrim yw1 r s (.slice aG nG cG) es st.1.1.rd (by omega)
 rw [← hTS.out, ← hTE.out, ← hTLs.out] at hcc
 go_wp2_with fail
 refine hcc.mono ?_
 rintro e w2 ⟨aX, cX, vL1, glo, ghi, flo, fhi, rfl, hdj, hrow0, hrl, hbn0⟩
 clear hcc
 have hrow := hrow0.read.mono hdj.2.2.1
 have hrl2 := hrl.read.mono hdj.2.2.2.2.2.1
 obtain ⟨_, vaL1, vcL1, rfl, _, _⟩ := hrl2
 replace hrl2 := hrl.read.mono hdj.2.2.2.2.2.1
 clear hrow0 hrl hdj
 obtain ⟨vnL1, hvnL1⟩ := exq TLs.length
 rw [← hvnL1] at hrl2 ⊢
 replace hvnL1 := hidI hvnL1
 clear c0G c1G c2G
 obtain ⟨nX, hnX⟩ := exq TE.length
 rw [← hnX] at hrow ⊢
 obtain ⟨xw2, yw2, YX, hAw, hYw, hCw, t0, t1, t2, ft, bx, hbC⟩ := box_new (r := r) (s := TS) hrow hnX
 replace hnX := hidI hnX
 replace st := st.adv hbn0
 replace st := st.int hrl2
 clear hrl2
 replace st := (st.adv hbC).box bx
 clear hbn0 hrow hbC bx
 go_upto_region 5 with (first | rw [hAw.out] | rw [hYw.out] | fail)
 try rw [hYw.out]
 rw [hCw.out]
 clear t0 t1 t2 ft hAw hCw hYw
 obtain ⟨c0G, c1G, c2G⟩ := (st.1.2.2.1).c
 have hcc := specTrim yw2 r s (.slice aG nG cG) es st.1.2.2.1.rd hsb (by omega)
 rw [← hTS.out, ← hTE.out, ← hTLs.out] at hcc
 go_wp2_with fail
 refine hcc.mono ?_
 rintro e w3 ⟨aY, cY, vL2, glo, ghi, flo, fhi, rfl, hdj, hrow0, hrl, hbn0⟩
 clear hcc
 have hrow := hrow0.read.mono hdj.2.2.1
 have hrl2 := hrl.read.mono hdj.2.2.2.2.2.1
 obtain ⟨_, vaL2, vcL2, rfl, _, _⟩ := hrl2
 replace hrl2 := hrl.read.mono hdj.2.2.2.2.2.1
 clear hrow0 hrl hdj
 obtain ⟨vnL2, hvnL2⟩ := exq TLs.length
 rw [← hvnL2] at hrl2 ⊢
 replace hvnL2 := hidI hvnL2
 clear c0G c1G c2G
 obtain ⟨nY, hnY⟩ := exq TE.length
 rw [← hnY] at hrow ⊢
 obtain ⟨xw3, yw3, YY, hAw, hYw, hCw, t0, t1, t2, ft, bx, hbC⟩ := box_new (r := r) (s := TS) hrow hnY
 replace hnY := hidI hnY
 replace st := st.adv hbn0
 replace st := st.int hrl2
 clear hrl2
 replace st := (st.adv hbC).box bx
 clear hbn0 hrow hbC bx
 go_upto_region 6 with (first | rw [hAw.out] | rw [hYw.out] | fail)
 try rw [hYw.out]
 rw [hCw.out]
 clear t0 t1 t2 ft hAw hCw hYw
 obtain ⟨c0X, c1X, c2X⟩ := (st.1.2.2.1).c
 obtain ⟨c0Y, c1Y, c2Y⟩ := (st.1.1).c
 have hcc := specEqG yw3 r TS r TS (.slice aX nX cX) (.slice aY nY cY) TE TE st.1.2.2.1.rd st.1.1.rd (by omega) (by omega)
 rw [eqG_self] at hcc
 go_wp2_with fail
 refine hcc.mono ?_
 rintro e w4 ⟨rfl, hbn⟩
 clear hcc
 clear c0X c1X c2X c0Y c1Y c2Y
 replace st := st.adv hbn
 clear hbn
 have hcc := sameInts_law w4 (.slice vaL1 vnL1 vcL1) (.slice vaL2 vnL2 vcL2) TLs (st.1.2.2.2.1) (st.1.2.1)
 go_wp2_with fail
 refine hcc.mono ?_
 rintro e w5 ⟨rfl, hbn, hsz9⟩
 clear hcc hsz9
 replace st := st.adv hbn
 clear hbn
 obtain ⟨c0G, c1G, c2G⟩ := (st.1.2.2.2.2.1).c
 have hcc := specIsGr w5 r s (.slice aG nG cG) es st.1.2.2.2.2.1.rd hsb (by omega)
 rw [← hBg.out] at hcc
 go_wp2_with fail
 refine hcc.mono ?_
 rintro e w6 ⟨rfl, hbn⟩
 clear hcc
 clear c0G c1G c2G
 replace st := st.adv hbn
 clear hbn
 cases Bg with
 | true =>
  obtain ⟨hdeg, hcon, hTl⟩ := hT1.out rfl
  obtain ⟨hco, hcs2, hce2⟩ := hC1.out rfl
  have hgr := hidI hBg.out.symm
  replace hdeg := hidI hdeg
  replace hcon := hidI hcon
  replace hco := hidI hco
  replace hcs2 := hidI hcs2
  replace hce2 := hidI hce2
  obtain ⟨c0Y, c1Y, c2Y⟩ := (st.1.1).c
  go_wp2
  go_loopg [8] (TS - 1).toNat (fun g i wr => ∃ k : Int, g = (TS - k).toNat ∧ i = .int .i64 k ∧ 1 ≤ k ∧ Hid (Below w6.heap.size w6 wr))
  case atStart => exact ⟨1, rfl, rfl, by omega, hidI (Below.refl _ _)⟩
  case round =>
   obtain ⟨k, hgk, rfl, hk1, hbl⟩ := hrel
   have hbn := hbl.out
   replace hgk := hidI hgk
   clear c0Y c1Y c2Y
   replace st := st.adv hbn
   clear hbn
   obtain ⟨c0Y, c1Y, c2Y⟩ := (st.1.1).c
   by_cases hlt : k < TS
   case pos =>
    have hd2 := hdeg.out k hk1 hlt
    have hcc := specDeg wr r TS (.slice aY nY cY) TE k st.1.1.rd (by omega)
    obtain ⟨d, hd⟩ := exq (degE k TE)
    rw [← hd] at hcc hd2
    replace hd := hidI hd
    have hd3 : decide (d < 2) = false := by simp; omega
    replace hd2 := hidI hd2
    go_wp2_with fail
    refine hcc.mono ?_
    rintro e w90 ⟨rfl, hb90⟩
    clear hcc
    have hbz := hidI (hbl.out.trans (hb90.mono hbl.out.size))
    go_wp2
    go_roundg ((TS - (k + 1)).toNat)
    case rel => exact ⟨k + 1, rfl, by go_num, by omega, hbz⟩
    case measure => have := hgk.out; omega
   case neg =>
    have hcc := progCon wr r TS (.slice aY nY cY) TE st.1.1.rd htb (by omega)
    rw [hcon.out] at hcc
    have hvl : (vnL2 : Int) = TS := by rw [hvnL2.out]; exact hTl
    have hvl2 : ((vnL2 : Int) != TS) = false := by rw [bne_eq_false_iff_eq]; exact hvl
    replace hTl := hidI hTl
    replace hvl := hidI hvl
    go_wp2_with fail
    refine hcc.mono ?_
    rintro e w8 ⟨rfl, hbn⟩
    clear hcc
    clear c0Y c1Y c2Y
    replace st := st.adv hbn
    clear hbn
    obtain ⟨c0Y, c1Y, c2Y⟩ := (st.1.1).c
    obtain ⟨c0G, c1G, c2G⟩ := (st.1.2.2.2.2.1).c
    have hcc := progCoreG w8 r s (.slice aG nG cG) es st.1.2.2.2.2.1.rd hsb hes
    rw [← hCS.out, ← hCE.out] at hcc
    go_wp2_with fail
    refine hcc.mono ?_
    rintro e w9 ⟨aV, cV, rfl, hrow0, hbn0⟩
    clear hcc
    have hrow := hrow0.read
    clear hrow0
    clear c0Y c1Y c2Y c0G c1G c2G
    obtain ⟨nV, hnV⟩ := exq CE.length
    rw [← hnV] at hrow ⊢
    obtain ⟨xw9, yw9, YV, hAw, hYw, hCw, t0, t1, t2, ft, bx, hbC⟩ := box_new (r := r) (s := CS) hrow hnV
    replace hnV := hidI hnV
    replace st := st.adv hbn0
    replace st := (st.adv hbC).box bx
    clear hbn0 hrow hbC bx
    go_upto_region 17 with (first | rw [hAw.out] | rw [hYw.out] | fail)
    try rw [hYw.out]
    rw [hCw.out]
    clear t0 t1 t2 ft hAw hCw hYw
    obtain ⟨wd, hwd⟩ := exq yw9.drew
    have hbn : Below yw9.heap.size yw9 wd := by rw [hwd]; exact below_dn (Below.refl _ _) 1
    have hwdw := hidI hwd.symm
    replace hwd := hidI hwd
    replace st := st.adv hbn
    clear hbn
    obtain ⟨c0G, c1G, c2G⟩ := (st.1.2.2.2.2.2.1).c
    obtain ⟨c0V, c1V, c2V⟩ := (st.1.1).c
    refine hideQ (fun _ _ d _ _ h => by cases d <;> exact h) (fun Q' hnorm hpan => ?_)
    refine wp_region_held_drew (S := (fun W0 => W0.cell? ⟨YG, 0, none⟩ = some (.int .i64 r) ∧ W0.cell? ⟨YG, 1, none⟩ = some (.int .i64 s) ∧ W0.cell? ⟨YG, 2, none⟩ = some (.slice aG nG cG) ∧ W0.cell? ⟨YV, 0, none⟩ = some (.int .i64 r) ∧ W0.cell? ⟨YV, 1, none⟩ = some (.int .i64 CS) ∧ W0.cell? ⟨YV, 2, none⟩ = some (.slice aV nV cV))) (by kernel_rfl) ?_ (fun hHeld => ?_)
    · try dsimp only
      (try rw [hwdw.out]); ((repeat' apply And.intro) <;> with_reducible assumption)
    rw [hwdw.out] at hHeld ⊢
    refine tk 0 68 ?_
    refine tk 1 69 ?_
    refine rd 2 (fun K hK => ?_)
    rw [if_pos (by rfl)]
    go_simp
    have hcc := specCoreG wd r s (.slice aG nG cG) es st.1.2.2.2.2.2.1.rd hsb hes
    rw [← hCS.out, ← hCE.out] at hcc
    refine hcc.mono ?_
    rintro e w11 ⟨aD, cD, rfl, hrow0, hbn⟩
    have hrD := hidI hrow0.read
    clear hrow0
    clear hcc
    clear c0G c1G c2G c0V c1V c2V
    replace st := st.adv hbn
    clear hbn
    obtain ⟨c0G, c1G, c2G⟩ := (st.1.2.2.2.2.2.1).c
    obtain ⟨c0V, c1V, c2V⟩ := (st.1.1).c
    refine hK.out _ _ ?_ (fun hHeld => ?_)
    · try dsimp only
      (try rw [hwdw.out]); ((repeat' apply And.intro) <;> with_reducible assumption)
    clear hK
    try simp only [Act.put, lyA, lyB, lyC]
    refine rd 3 (fun K hK => ?_)
    rw [if_pos (by rfl)]
    go_simp
    have hcc := specEqG w11 r CS r CS (.slice aV nV cV) (.slice aD CE.length cD) CE CE st.1.1.rd hrD.out (by omega) (by omega)
    rw [eqG_self] at hcc
    refine hcc.mono ?_
    rintro e w12 ⟨rfl, hbn⟩
    clear hcc
    clear c0G c1G c2G c0V c1V c2V
    replace st := st.adv hbn
    clear hbn
    obtain ⟨c0G, c1G, c2G⟩ := (st.1.2.2.2.2.2.1).c
    obtain ⟨c0V, c1V, c2V⟩ := (st.1.1).c
    refine hK.out _ _ ?_ (fun hHeld => ?_)
    · try dsimp only
      (try rw [hwdw.out]); ((repeat' apply And.intro) <;> with_reducible assumption)
    clear hK
    try simp only [Act.put, lyA, lyB, lyC]
    refine tk 4 72 ?_
    refine tk 5 73 ?_
    refine tg 6 74 ?_
    refine rd 7 (fun K hK => ?_)
    rw [if_pos (by kernel_rfl)]
    go_simp
    have hcc := specIsGr w12 r s (.slice aG nG cG) es st.1.2.2.2.2.2.1.rd hsb (by omega)
    rw [← hBg.out] at hcc
    refine hcc.mono ?_
    rintro e w13 ⟨rfl, hbn⟩
    clear hcc
    clear c0G c1G c2G c0V c1V c2V
    replace st := st.adv hbn
    clear hbn
    obtain ⟨c0G, c1G, c2G⟩ := (st.1.2.2.2.2.2.1).c
    obtain ⟨c0V, c1V, c2V⟩ := (st.1.1).c
    refine hK.out _ _ ?_ (fun hHeld => ?_)
    · try dsimp only
      (try rw [hwdw.out]); ((repeat' apply And.intro) <;> with_reducible assumption)
    clear hK
    try simp only [Act.put, lyA, lyB, lyC]
    refine tg 8 76 ?_
    refine tg 9 77 ?_
    refine rd 10 (fun K hK => ?_)
    rw [if_pos (by kernel_rfl)]
    go_simp
    have hcc := progIsCo w13 r CS (.slice aV nV cV) CE st.1.1.rd (by omega)
    rw [hco.out] at hcc
    refine hcc.mono ?_
    rintro e w14 ⟨rfl, hbn⟩
    clear hcc
    clear c0G c1G c2G c0V c1V c2V
    replace st := st.adv hbn
    clear hbn
    obtain ⟨c0G, c1G, c2G⟩ := (st.1.2.2.2.2.2.1).c
    obtain ⟨c0V, c1V, c2V⟩ := (st.1.1).c
    refine hK.out _ _ ?_ (fun hHeld => ?_)
    · try dsimp only
      (try rw [hwdw.out]); ((repeat' apply And.intro) <;> with_reducible assumption)
    clear hK
    try simp only [Act.put, lyA, lyB, lyC]
    refine tg 11 79 ?_
    refine tg 12 80 ?_
    refine tg 13 81 ?_
    refine tg 15 83 ?_
    refine rd 14 (fun K hK => ?_)
    rw [if_pos (by kernel_rfl)]
    go_simp
    have hcc := progCoreG w14 r CS (.slice aV nV cV) CE st.1.1.rd hcrb (by omega)
    rw [hcs2.out, hce2.out] at hcc
    refine hcc.mono ?_
    rintro e w15 ⟨aE, cE, rfl, hrow0, hbn⟩
    have hrE := hidI hrow0.read
    clear hrow0
    clear hcc
    clear c0G c1G c2G c0V c1V c2V
    replace st := st.adv hbn
    clear hbn
    obtain ⟨c0G, c1G, c2G⟩ := (st.1.2.2.2.2.2.1).c
    obtain ⟨c0V, c1V, c2V⟩ := (st.1.1).c
    refine hK.out _ _ ?_ (fun hHeld => ?_)
    · try dsimp only
      (try rw [hwdw.out]); ((repeat' apply And.intro) <;> with_reducible assumption)
    clear hK
    try simp only [Act.put, lyA, lyB, lyC]
    refine rd 16 (fun K hK => ?_)
    rw [if_pos (by kernel_rfl)]
    go_simp
    have hcc := specEqG w15 r CS r CS (.slice aE CE.length cE) (.slice aV nV cV) CE CE hrE.out st.1.1.rd (by omega) (by omega)
    rw [eqG_self] at hcc
    refine hcc.mono ?_
    rintro e w16 ⟨rfl, hbn⟩
    clear hcc
    clear c0G c1G c2G c0V c1V c2V
    replace st := st.adv hbn
    clear hbn
    obtain ⟨c0G, c1G, c2G⟩ := (st.1.2.2.2.2.2.1).c
    obtain ⟨c0V, c1V, c2V⟩ := (st.1.1).c
    refine hK.out _ _ ?_ (fun hHeld => ?_)
    · try dsimp only
      (try rw [hwdw.out]); ((repeat' apply And.intro) <;> with_reducible assumption)
    clear hK
    try simp only [Act.put, lyA, lyB, lyC]
    refine tg 17 85 ?_
    refine tg 18 86 ?_
    refine tg 19 87 ?_
    refine tk 20 88 ?_
    refine wpAnyH_done (by kernel_rfl) ?_ _
    refine hnorm _ _ ?_
    clear hnorm hpan
    repeat clear hHeld
    try simp only [Exit.then]
    clear c0G c1G c2G c0V c1V c2V
    have hcc := drawRen_any w16 a len cap (st.1.2.2.2.2.2.2.1)
    go_wp2_with fail
    refine hcc.mono ?_
    rintro e w17 ⟨rr, sr, er, zr, ⟨hPr1, hPr2, hPr3⟩, hzr, aR, cR, vR, rfl, hrow, hir, hbn0⟩
    clear hcc
    have hir9 := hir
    obtain ⟨_, vaR, vcR, rfl, _, _⟩ : ReadI _ _ vR zr := hir9
    obtain ⟨vnR, hvnR⟩ := exq zr.length
    rw [← hvnR] at hir ⊢
    replace hvnR := hidI hvnR
    unfold ReadE at hrow
    obtain ⟨nR, hnR⟩ := exq er.length
    rw [← hnR] at hrow ⊢
    obtain ⟨xw17, yw17, YR, hAw, hYw, hCw, t0, t1, t2, ft, bx, hbC⟩ := box_new (r := rr) (s := sr) hrow hnR
    replace hnR := hidI hnR
    replace st := st.adv hbn0
    replace st := st.int hir
    clear hir
    replace st := (st.adv hbC).box bx
    clear hbn0 hrow hbC bx
    go_upto_region 20 with (first | rw [hAw.out] | rw [hYw.out] | fail)
    try rw [hYw.out]
    rw [hCw.out]
    clear t0 t1 t2 ft hAw hCw hYw
    have hrl := rnE_length rr sr er zr
    have hsr : -9223372036854775808 ≤ sr ∧ sr ≤ 9223372036854775807 := by omega
    obtain ⟨RS, hRS⟩ := exq (rnS rr sr er zr)
    obtain ⟨RE, hRE⟩ := exq (rnE rr sr er zr)
    obtain ⟨RO, hRO⟩ := exq (okN rr sr er zr)
    rw [← hRE] at hrl
    replace hRS := hidI hRS
    replace hRE := hidI hRE
    replace hRO := hidI hRO
    obtain ⟨c0R, c1R, c2R⟩ := (st.1.1).c
    have hcc := progRenum yw17 rr sr (.slice aR nR cR) (.slice vaR vnR vcR) er zr st.1.1.rd (by omega) (st.1.2.1) (by omega)
    rw [← hRS.out, ← hRE.out, ← hRO.out] at hcc
    go_wp2_with fail
    refine hcc.mono ?_
    rintro e w18 ⟨aP, cP, rfl, hrow0, hbn0⟩
    clear hcc
    have hrow := hrow0.read
    clear hrow0
    clear c0R c1R c2R
    obtain ⟨nP, hnP⟩ := exq RE.length
    rw [← hnP] at hrow ⊢
    obtain ⟨xw18, yw18, YP, hAw, hYw, hCw, t0, t1, t2, ft, bx, hbC⟩ := box_new (r := rr) (s := RS) hrow hnP
    replace hnP := hidI hnP
    replace st := st.adv hbn0
    replace st := (st.adv hbC).box bx
    clear hbn0 hrow hbC bx
    go_upto_region 21 with (first | rw [hAw.out] | rw [hYw.out] | fail)
    try rw [hYw.out]
    rw [hCw.out]
    clear t0 t1 t2 ft hAw hCw hYw
    obtain ⟨c0R, c1R, c2R⟩ := (st.1.2.1).c
    have hcc := specRenum yw18 rr sr (.slice aR nR cR) (.slice vaR vnR vcR) er zr st.1.2.1.rd hsr (by omega) (st.1.2.2.1) (by omega)
    rw [← hRS.out, ← hRE.out, ← hRO.out] at hcc
    go_wp2_with fail
    refine hcc.mono ?_
    rintro e w19 ⟨aQ, cQ, rfl, hrow0, hbn0⟩
    clear hcc
    have hrow := hrow0.read
    clear hrow0
    clear c0R c1R c2R
    obtain ⟨nQ, hnQ⟩ := exq RE.length
    rw [← hnQ] at hrow ⊢
    obtain ⟨xw19, yw19, YQ, hAw, hYw, hCw, t0, t1, t2, ft, bx, hbC⟩ := box_new (r := rr) (s := RS) hrow hnQ
    replace hnQ := hidI hnQ
    replace st := st.adv hbn0
    replace st := (st.adv hbC).box bx
    clear hbn0 hrow hbC bx
    go_upto_region 22 with (first | rw [hAw.out] | rw [hYw.out] | fail)
    try rw [hYw.out]
    rw [hCw.out]
    clear t0 t1 t2 ft hAw hCw hYw
    have hcc := drawCanG_any yw19 a len cap (st.1.2.2.2.2.2.2.2.2.2.2.1)
    go_wp2_with fail
    refine hcc.mono ?_
    rintro e w20 ⟨ra, sa, ea, ⟨hPa1, hPa2, hPa3⟩, aA, cA, rfl, hrow0, hbn0⟩
    clear hcc
    have hrow := hrow0.read
    clear hrow0
    obtain ⟨nA, hnA⟩ := exq ea.length
    rw [← hnA] at hrow ⊢
    obtain ⟨xw20, yw20, YA, hAw, hYw, hCw, t0, t1, t2, ft, bx, hbC⟩ := box_new (r := ra) (s := sa) hrow hnA
    replace hnA := hidI hnA
    replace st := st.adv hbn0
    replace st := (st.adv hbC).box bx
    clear hbn0 hrow hbC bx
    go_upto_region 23 with (first | rw [hAw.out] | rw [hYw.out] | fail)
    try rw [hYw.out]
    rw [hCw.out]
    clear t0 t1 t2 ft hAw hCw hYw
    have hsa : -9223372036854775808 ≤ sa ∧ sa ≤ 9223372036854775807 := by omega
    have hgl := cgE_length ra sa ea
    obtain ⟨htw1, htw2⟩ := canon_twice ra sa ea
    obtain ⟨AS, hAS⟩ := exq (cgS ra sa ea)
    obtain ⟨AE, hAE⟩ := exq (cgE ra sa ea)
    obtain ⟨AO, hAO⟩ := exq (coL ra sa ea (letsN ra.toNat))
    rw [← hAE] at hgl
    rw [← hAS, ← hAE] at htw1 htw2
    replace hAS := hidI hAS
    replace hAE := hidI hAE
    replace hAO := hidI hAO
    replace htw1 := hidI htw1
    replace htw2 := hidI htw2
    obtain ⟨c0A, c1A, c2A⟩ := (st.1.1).c
    have hcc := progCanG yw20 ra sa (.slice aA nA cA) ea st.1.1.rd (by omega)
    rw [← hAS.out, ← hAE.out] at hcc
    go_wp2_with fail
    refine hcc.mono ?_
    rintro e w21 ⟨aB, cB, rfl, hrow0, hbn0⟩
    clear hcc
    have hrow := hrow0.read
    clear hrow0
    clear c0A c1A c2A
    obtain ⟨nB, hnB⟩ := exq AE.length
    rw [← hnB] at hrow ⊢
    obtain ⟨xw21, yw21, YB, hAw, hYw, hCw, t0, t1, t2, ft, bx, hbC⟩ := box_new (r := ra) (s := AS) hrow hnB
    replace hnB := hidI hnB
    replace st := st.adv hbn0
    replace st := (st.adv hbC).box bx
    clear hbn0 hrow hbC bx
    go_upto_region 24 with (first | rw [hAw.out] | rw [hYw.out] | fail)
    try rw [hYw.out]
    rw [hCw.out]
    clear t0 t1 t2 ft hAw hCw hYw
    have hcc := drawIsCo_any yw21 a len cap (st.1.2.2.2.2.2.2.2.2.2.2.2.2.1)
    go_wp2_with fail
    refine hcc.mono ?_
    rintro e w22 ⟨rt, stt, et, hPt1, hPt2, aT, cT, rfl, hrow0, hbn0⟩
    clear hcc
    have hrow := hrow0.read
    clear hrow0
    obtain ⟨nT, hnT⟩ := exq et.length
    rw [← hnT] at hrow ⊢
    obtain ⟨xw22, yw22, YT, hAw, hYw, hCw, t0, t1, t2, ft, bx, hbC⟩ := box_new (r := rt) (s := stt) hrow hnT
    replace hnT := hidI hnT
    replace st := st.adv hbn0
    replace st := (st.adv hbC).box bx
    clear hbn0 hrow hbC bx
    go_upto_region 25 with (first | rw [hAw.out] | rw [hYw.out] | fail)
    try rw [hYw.out]
    rw [hCw.out]
    clear t0 t1 t2 ft hAw hCw hYw
    have hcc := drawTree_any yw22 a len cap (st.1.2.2.2.2.2.2.2.2.2.2.2.2.2.1)
    go_wp2_with fail
    refine hcc.mono ?_
    rintro e w23 ⟨ru, su, eu, ⟨hPu1, hPu2, hPu3⟩, aU, cU, rfl, hrow0, hbn0⟩
    clear hcc
    have hrow := hrow0.read
    clear hrow0
    obtain ⟨nU, hnU⟩ := exq eu.length
    rw [← hnU] at hrow ⊢
    obtain ⟨xw23, yw23, YU, hAw, hYw, hCw, t0, t1, t2, ft, bx, hbC⟩ := box_new (r := ru) (s := su) hrow hnU
    replace hnU := hidI hnU
    replace st := st.adv hbn0
    replace st := (st.adv hbC).box bx
    clear hbn0 hrow hbC bx
    go_upto_region 26 with (first | rw [hAw.out] | rw [hYw.out] | fail)
    try rw [hYw.out]
    rw [hCw.out]
    clear t0 t1 t2 ft hAw hCw hYw
    have hsu : -9223372036854775808 ≤ su ∧ su ≤ 9223372036854775807 := by omega
    obtain ⟨FT, hFT⟩ := exq (isCo rt stt et)
    obtain ⟨FU, hFU⟩ := exq (treG ru su eu)
    replace hFT := hidI hFT
    replace hFU := hidI hFU
    have hROO : (RO == RO) = true := by simp
    have hFTT : (FT == FT) = true := by simp
    have hFUU : (FU == FU) = true := by simp
    obtain ⟨we, hwe⟩ := exq yw23.drew
    have hbn : Below yw23.heap.size yw23 we := by rw [hwe]; exact below_dn (Below.refl _ _) 1
    have hwew := hidI hwe.symm
    replace hwe := hidI hwe
    replace st := st.adv hbn
    clear hbn
    obtain ⟨c0P, c1P, c2P⟩ := (st.1.2.2.2.2.2.1).c
    obtain ⟨c0Q, c1Q, c2Q⟩ := (st.1.2.2.2.2.1).c
    obtain ⟨c0A, c1A, c2A⟩ := (st.1.2.2.2.1).c
    obtain ⟨c0B, c1B, c2B⟩ := (st.1.2.2.1).c
    obtain ⟨c0T, c1T, c2T⟩ := (st.1.2.1).c
    obtain ⟨c0U, c1U, c2U⟩ := (st.1.1).c
    refine hideQ (fun _ _ d _ _ h => by cases d <;> exact h) (fun Q' hnorm hpan => ?_)
    refine wp_region_held_drew (S := (fun W0 => W0.cell? ⟨YP, 0, none⟩ = some (.int .i64 rr) ∧ W0.cell? ⟨YP, 1, none⟩ = some (.int .i64 RS) ∧ W0.cell? ⟨YP, 2, none⟩ = some (.slice aP nP cP) ∧ W0.cell? ⟨YQ, 0, none⟩ = some (.int .i64 rr) ∧ W0.cell? ⟨YQ, 1, none⟩ = some (.int .i64 RS) ∧ W0.cell? ⟨YQ, 2, none⟩ = some (.slice aQ nQ cQ) ∧ W0.cell? ⟨YA, 0, none⟩ = some (.int .i64 ra) ∧ W0.cell? ⟨YA, 1, none⟩ = some (.int .i64 sa) ∧ W0.cell? ⟨YA, 2, none⟩ = some (.slice aA nA cA) ∧ W0.cell? ⟨YB, 0, none⟩ = some (.int .i64 ra) ∧ W0.cell? ⟨YB, 1, none⟩ = some (.int .i64 AS) ∧ W0.cell? ⟨YB, 2, none⟩ = some (.slice aB nB cB) ∧ W0.cell? ⟨YT, 0, none⟩ = some (.int .i64 rt) ∧ W0.cell? ⟨YT, 1, none⟩ = some (.int .i64 stt) ∧ W0.cell? ⟨YT, 2, none⟩ = some (.slice aT nT cT) ∧ W0.cell? ⟨YU, 0, none⟩ = some (.int .i64 ru) ∧ W0.cell? ⟨YU, 1, none⟩ = some (.int .i64 su) ∧ W0.cell? ⟨YU, 2, none⟩ = some (.slice aU nU cU))) (by kernel_rfl) ?_ (fun hHeld => ?_)
    · try dsimp only
      (try rw [hwew.out]); ((repeat' apply And.intro) <;> with_reducible assumption)
    rw [hwew.out] at hHeld ⊢
    refine tk 0 114 ?_
    refine tk 1 115 ?_
    refine tk 2 116 ?_
    try rw [hROO]
    refine tk 3 117 ?_
    refine tg 4 118 ?_
    refine tg 5 119 ?_
    refine rd 6 (fun K hK => ?_)
    rw [if_pos (by kernel_rfl)]
    go_simp
    have hcc := specEqG we rr RS rr RS (.slice aP nP cP) (.slice aQ nQ cQ) RE RE st.1.2.2.2.2.2.1.rd st.1.2.2.2.2.1.rd (by omega) (by omega)
    rw [eqG_self] at hcc
    refine hcc.mono ?_
    rintro e w25 ⟨rfl, hbn⟩
    clear hcc
    clear c0P c1P c2P c0Q c1Q c2Q c0A c1A c2A c0B c1B c2B c0T c1T c2T c0U c1U c2U
    replace st := st.adv hbn
    clear hbn
    obtain ⟨c0P, c1P, c2P⟩ := (st.1.2.2.2.2.2.1).c
    obtain ⟨c0Q, c1Q, c2Q⟩ := (st.1.2.2.2.2.1).c
    obtain ⟨c0A, c1A, c2A⟩ := (st.1.2.2.2.1).c
    obtain ⟨c0B, c1B, c2B⟩ := (st.1.2.2.1).c
    obtain ⟨c0T, c1T, c2T⟩ := (st.1.2.1).c
    obtain ⟨c0U, c1U, c2U⟩ := (st.1.1).c
    refine hK.out _ _ ?_ (fun hHeld => ?_)
    · try dsimp only
      (try rw [hwew.out]); ((repeat' apply And.intro) <;> with_reducible assumption)
    clear hK
    try simp only [Act.put, lyA, lyB, lyC]
    refine tg 7 121 ?_
    refine tg 8 122 ?_
    refine tg 9 123 ?_
    refine tg 10 124 ?_
    refine rd 11 (fun K hK => ?_)
    rw [if_pos (by kernel_rfl)]
    go_simp
    have hcc := specCanG w25 ra sa (.slice aA nA cA) ea st.1.2.2.2.1.rd hsa (by omega)
    rw [← hAS.out, ← hAE.out] at hcc
    refine hcc.mono ?_
    rintro e w26 ⟨aH, cH, rfl, hrow0, hbn⟩
    have hrH := hidI hrow0.read
    clear hrow0
    clear hcc
    clear c0P c1P c2P c0Q c1Q c2Q c0A c1A c2A c0B c1B c2B c0T c1T c2T c0U c1U c2U
    replace st := st.adv hbn
    clear hbn
    obtain ⟨c0P, c1P, c2P⟩ := (st.1.2.2.2.2.2.1).c
    obtain ⟨c0Q, c1Q, c2Q⟩ := (st.1.2.2.2.2.1).c
    obtain ⟨c0A, c1A, c2A⟩ := (st.1.2.2.2.1).c
    obtain ⟨c0B, c1B, c2B⟩ := (st.1.2.2.1).c
    obtain ⟨c0T, c1T, c2T⟩ := (st.1.2.1).c
    obtain ⟨c0U, c1U, c2U⟩ := (st.1.1).c
    refine hK.out _ _ ?_ (fun hHeld => ?_)
    · try dsimp only
      (try rw [hwew.out]); ((repeat' apply And.intro) <;> with_reducible assumption)
    clear hK
    try simp only [Act.put, lyA, lyB, lyC]
    refine rd 12 (fun K hK => ?_)
    rw [if_pos (by kernel_rfl)]
    go_simp
    have hcc := specEqG w26 ra AS ra AS (.slice aB nB cB) (.slice aH AE.length cH) AE AE st.1.2.2.1.rd hrH.out (by omega) (by omega)
    rw [eqG_self] at hcc
    refine hcc.mono ?_
    rintro e w27 ⟨rfl, hbn⟩
    clear hcc
    clear c0P c1P c2P c0Q c1Q c2Q c0A c1A c2A c0B c1B c2B c0T c1T c2T c0U c1U c2U
    replace st := st.adv hbn
    clear hbn
    obtain ⟨c0P, c1P, c2P⟩ := (st.1.2.2.2.2.2.1).c
    obtain ⟨c0Q, c1Q, c2Q⟩ := (st.1.2.2.2.2.1).c
    obtain ⟨c0A, c1A, c2A⟩ := (st.1.2.2.2.1).c
    obtain ⟨c0B, c1B, c2B⟩ := (st.1.2.2.1).c
    obtain ⟨c0T, c1T, c2T⟩ := (st.1.2.1).c
    obtain ⟨c0U, c1U, c2U⟩ := (st.1.1).c
    refine hK.out _ _ ?_ (fun hHeld => ?_)
    · try dsimp only
      (try rw [hwew.out]); ((repeat' apply And.intro) <;> with_reducible assumption)
    clear hK
    try simp only [Act.put, lyA, lyB, lyC]
    refine tg 13 127 ?_
    refine tg 14 128 ?_
    refine tg 15 129 ?_
    refine tg 17 131 ?_
    refine rd 16 (fun K hK => ?_)
    rw [if_pos (by kernel_rfl)]
    go_simp
    have hcc := progCanG w27 ra AS (.slice aB nB cB) AE st.1.2.2.1.rd (by omega)
    rw [htw1.out, htw2.out] at hcc
    refine hcc.mono ?_
    rintro e w28 ⟨aI, cI, rfl, hrow0, hbn⟩
    have hrI := hidI hrow0.read
    clear hrow0
    clear hcc
    clear c0P c1P c2P c0Q c1Q c2Q c0A c1A c2A c0B c1B c2B c0T c1T c2T c0U c1U c2U
    replace st := st.adv hbn
    clear hbn
    obtain ⟨c0P, c1P, c2P⟩ := (st.1.2.2.2.2.2.1).c
    obtain ⟨c0Q, c1Q, c2Q⟩ := (st.1.2.2.2.2.1).c
    obtain ⟨c0A, c1A, c2A⟩ := (st.1.2.2.2.1).c
    obtain ⟨c0B, c1B, c2B⟩ := (st.1.2.2.1).c
    obtain ⟨c0T, c1T, c2T⟩ := (st.1.2.1).c
    obtain ⟨c0U, c1U, c2U⟩ := (st.1.1).c
    refine hK.out _ _ ?_ (fun hHeld => ?_)
    · try dsimp only
      (try rw [hwew.out]); ((repeat' apply And.intro) <;> with_reducible assumption)
    clear hK
    try simp only [Act.put, lyA, lyB, lyC]
    refine rd 18 (fun K hK => ?_)
    rw [if_pos (by kernel_rfl)]
    go_simp
    have hcc := specEqG w28 ra AS ra AS (.slice aI AE.length cI) (.slice aB nB cB) AE AE hrI.out st.1.2.2.1.rd (by omega) (by omega)
    rw [eqG_self] at hcc
    refine hcc.mono ?_
    rintro e w29 ⟨rfl, hbn⟩
    clear hcc
    clear c0P c1P c2P c0Q c1Q c2Q c0A c1A c2A c0B c1B c2B c0T c1T c2T c0U c1U c2U
    replace st := st.adv hbn
    clear hbn
    obtain ⟨c0P, c1P, c2P⟩ := (st.1.2.2.2.2.2.1).c
    obtain ⟨c0Q, c1Q, c2Q⟩ := (st.1.2.2.2.2.1).c
    obtain ⟨c0A, c1A, c2A⟩ := (st.1.2.2.2.1).c
    obtain ⟨c0B, c1B, c2B⟩ := (st.1.2.2.1).c
    obtain ⟨c0T, c1T, c2T⟩ := (st.1.2.1).c
    obtain ⟨c0U, c1U, c2U⟩ := (st.1.1).c
    refine hK.out _ _ ?_ (fun hHeld => ?_)
    · try dsimp only
      (try rw [hwew.out]); ((repeat' apply And.intro) <;> with_reducible assumption)
    clear hK
    try simp only [Act.put, lyA, lyB, lyC]
    refine tg 19 133 ?_
    refine tg 20 134 ?_
    refine tg 21 135 ?_
    refine tg 23 137 ?_
    refine rd 22 (fun K hK => ?_)
    rw [if_pos (by kernel_rfl)]
    go_simp
    have hcc := progCanO w29 ra sa (.slice aA nA cA) ea st.1.2.2.2.1.rd (by omega)
    rw [← hAO.out] at hcc
    refine hcc.mono ?_
    rintro e w30 ⟨vJ, rfl, hrow0, hbn⟩
    have hrJ0 := hrow0.read
    have hrJ := hidI hrJ0
    clear hrow0 hrJ0
    clear hcc
    clear c0P c1P c2P c0Q c1Q c2Q c0A c1A c2A c0B c1B c2B c0T c1T c2T c0U c1U c2U
    replace st := st.adv hbn
    clear hbn
    obtain ⟨c0P, c1P, c2P⟩ := (st.1.2.2.2.2.2.1).c
    obtain ⟨c0Q, c1Q, c2Q⟩ := (st.1.2.2.2.2.1).c
    obtain ⟨c0A, c1A, c2A⟩ := (st.1.2.2.2.1).c
    obtain ⟨c0B, c1B, c2B⟩ := (st.1.2.2.1).c
    obtain ⟨c0T, c1T, c2T⟩ := (st.1.2.1).c
    obtain ⟨c0U, c1U, c2U⟩ := (st.1.1).c
    refine hK.out _ _ ?_ (fun hHeld => ?_)
    · try dsimp only
      (try rw [hwew.out]); ((repeat' apply And.intro) <;> with_reducible assumption)
    clear hK
    try simp only [Act.put, lyA, lyB, lyC]
    refine rd 24 (fun K hK => ?_)
    rw [if_pos (by kernel_rfl)]
    go_simp
    have hcc := specCanO w30 ra sa (.slice aA nA cA) ea st.1.2.2.2.1.rd hsa (by omega)
    rw [← hAO.out] at hcc
    refine hcc.mono ?_
    rintro e w31 ⟨vK, rfl, hrow0, hbn⟩
    have hrK := hidI hrow0.read
    replace hrJ := hidI ((hrJ.out.below hbn).mono hbn.size)
    clear hrow0
    clear hcc
    clear c0P c1P c2P c0Q c1Q c2Q c0A c1A c2A c0B c1B c2B c0T c1T c2T c0U c1U c2U
    replace st := st.adv hbn
    clear hbn
    obtain ⟨c0P, c1P, c2P⟩ := (st.1.2.2.2.2.2.1).c
    obtain ⟨c0Q, c1Q, c2Q⟩ := (st.1.2.2.2.2.1).c
    obtain ⟨c0A, c1A, c2A⟩ := (st.1.2.2.2.1).c
    obtain ⟨c0B, c1B, c2B⟩ := (st.1.2.2.1).c
    obtain ⟨c0T, c1T, c2T⟩ := (st.1.2.1).c
    obtain ⟨c0U, c1U, c2U⟩ := (st.1.1).c
    refine hK.out _ _ ?_ (fun hHeld => ?_)
    · try dsimp only
      (try rw [hwew.out]); ((repeat' apply And.intro) <;> with_reducible assumption)
    clear hK
    try simp only [Act.put, lyA, lyB, lyC]
    refine rd 25 (fun K hK => ?_)
    rw [if_pos (by kernel_rfl)]
    go_simp
    have hcc := sameInts_law w31 vJ vK AO hrJ.out hrK.out
    refine hcc.mono ?_
    rintro e w32 ⟨rfl, hbn, hsz9⟩
    clear hsz9
    clear hcc
    clear c0P c1P c2P c0Q c1Q c2Q c0A c1A c2A c0B c1B c2B c0T c1T c2T c0U c1U c2U
    replace st := st.adv hbn
    clear hbn
    obtain ⟨c0P, c1P, c2P⟩ := (st.1.2.2.2.2.2.1).c
    obtain ⟨c0Q, c1Q, c2Q⟩ := (st.1.2.2.2.2.1).c
    obtain ⟨c0A, c1A, c2A⟩ := (st.1.2.2.2.1).c
    obtain ⟨c0B, c1B, c2B⟩ := (st.1.2.2.1).c
    obtain ⟨c0T, c1T, c2T⟩ := (st.1.2.1).c
    obtain ⟨c0U, c1U, c2U⟩ := (st.1.1).c
    refine hK.out _ _ ?_ (fun hHeld => ?_)
    · try dsimp only
      (try rw [hwew.out]); ((repeat' apply And.intro) <;> with_reducible assumption)
    clear hK
    try simp only [Act.put, lyA, lyB, lyC]
    refine tg 26 140 ?_
    refine tg 27 141 ?_
    refine tg 28 142 ?_
    refine tg 30 144 ?_
    refine rd 29 (fun K hK => ?_)
    rw [if_pos (by kernel_rfl)]
    go_simp
    have hcc := progIsCo w32 rt stt (.slice aT nT cT) et st.1.2.1.rd (by omega)
    rw [← hFT.out] at hcc
    refine hcc.mono ?_
    rintro e w33 ⟨rfl, hbn⟩
    clear hcc
    clear c0P c1P c2P c0Q c1Q c2Q c0A c1A c2A c0B c1B c2B c0T c1T c2T c0U c1U c2U
    replace st := st.adv hbn
    clear hbn
    obtain ⟨c0P, c1P, c2P⟩ := (st.1.2.2.2.2.2.1).c
    obtain ⟨c0Q, c1Q, c2Q⟩ := (st.1.2.2.2.2.1).c
    obtain ⟨c0A, c1A, c2A⟩ := (st.1.2.2.2.1).c
    obtain ⟨c0B, c1B, c2B⟩ := (st.1.2.2.1).c
    obtain ⟨c0T, c1T, c2T⟩ := (st.1.2.1).c
    obtain ⟨c0U, c1U, c2U⟩ := (st.1.1).c
    refine hK.out _ _ ?_ (fun hHeld => ?_)
    · try dsimp only
      (try rw [hwew.out]); ((repeat' apply And.intro) <;> with_reducible assumption)
    clear hK
    try simp only [Act.put, lyA, lyB, lyC]
    refine rd 31 (fun K hK => ?_)
    rw [if_pos (by kernel_rfl)]
    go_simp
    have hcc := specIsCo w33 rt stt (.slice aT nT cT) et st.1.2.1.rd hPt2 (by omega)
    rw [← hFT.out] at hcc
    refine hcc.mono ?_
    rintro e w34 ⟨rfl, hbn⟩
    clear hcc
    clear c0P c1P c2P c0Q c1Q c2Q c0A c1A c2A c0B c1B c2B c0T c1T c2T c0U c1U c2U
    replace st := st.adv hbn
    clear hbn
    obtain ⟨c0P, c1P, c2P⟩ := (st.1.2.2.2.2.2.1).c
    obtain ⟨c0Q, c1Q, c2Q⟩ := (st.1.2.2.2.2.1).c
    obtain ⟨c0A, c1A, c2A⟩ := (st.1.2.2.2.1).c
    obtain ⟨c0B, c1B, c2B⟩ := (st.1.2.2.1).c
    obtain ⟨c0T, c1T, c2T⟩ := (st.1.2.1).c
    obtain ⟨c0U, c1U, c2U⟩ := (st.1.1).c
    refine hK.out _ _ ?_ (fun hHeld => ?_)
    · try dsimp only
      (try rw [hwew.out]); ((repeat' apply And.intro) <;> with_reducible assumption)
    clear hK
    try simp only [Act.put, lyA, lyB, lyC]
    refine tg 32 146 ?_
    try rw [hFTT]
    refine tg 33 147 ?_
    refine tg 34 148 ?_
    refine tg 35 149 ?_
    refine tg 37 151 ?_
    refine rd 36 (fun K hK => ?_)
    rw [if_pos (by kernel_rfl)]
    go_simp
    have hcc := progTree w34 ru su (.slice aU nU cU) eu st.1.1.rd hsu (by omega)
    rw [← hFU.out] at hcc
    refine hcc.mono ?_
    rintro e w35 ⟨rfl, hbn⟩
    clear hcc
    clear c0P c1P c2P c0Q c1Q c2Q c0A c1A c2A c0B c1B c2B c0T c1T c2T c0U c1U c2U
    replace st := st.adv hbn
    clear hbn
    obtain ⟨c0P, c1P, c2P⟩ := (st.1.2.2.2.2.2.1).c
    obtain ⟨c0Q, c1Q, c2Q⟩ := (st.1.2.2.2.2.1).c
    obtain ⟨c0A, c1A, c2A⟩ := (st.1.2.2.2.1).c
    obtain ⟨c0B, c1B, c2B⟩ := (st.1.2.2.1).c
    obtain ⟨c0T, c1T, c2T⟩ := (st.1.2.1).c
    obtain ⟨c0U, c1U, c2U⟩ := (st.1.1).c
    refine hK.out _ _ ?_ (fun hHeld => ?_)
    · try dsimp only
      (try rw [hwew.out]); ((repeat' apply And.intro) <;> with_reducible assumption)
    clear hK
    try simp only [Act.put, lyA, lyB, lyC]
    refine rd 38 (fun K hK => ?_)
    rw [if_pos (by kernel_rfl)]
    go_simp
    have hcc := specTree w35 ru su (.slice aU nU cU) eu st.1.1.rd hsu (by omega)
    rw [← hFU.out] at hcc
    refine hcc.mono ?_
    rintro e w36 ⟨rfl, hbn⟩
    clear hcc
    clear c0P c1P c2P c0Q c1Q c2Q c0A c1A c2A c0B c1B c2B c0T c1T c2T c0U c1U c2U
    replace st := st.adv hbn
    clear hbn
    obtain ⟨c0P, c1P, c2P⟩ := (st.1.2.2.2.2.2.1).c
    obtain ⟨c0Q, c1Q, c2Q⟩ := (st.1.2.2.2.2.1).c
    obtain ⟨c0A, c1A, c2A⟩ := (st.1.2.2.2.1).c
    obtain ⟨c0B, c1B, c2B⟩ := (st.1.2.2.1).c
    obtain ⟨c0T, c1T, c2T⟩ := (st.1.2.1).c
    obtain ⟨c0U, c1U, c2U⟩ := (st.1.1).c
    refine hK.out _ _ ?_ (fun hHeld => ?_)
    · try dsimp only
      (try rw [hwew.out]); ((repeat' apply And.intro) <;> with_reducible assumption)
    clear hK
    try simp only [Act.put, lyA, lyB, lyC]
    refine tg 39 153 ?_
    try rw [hFUU]
    refine tk 40 154 ?_
    refine tk 41 2 ?_
    refine wpAnyH_done (by kernel_rfl) ?_ _
    refine hnorm _ _ ?_
    clear hnorm hpan
    repeat clear hHeld
    try simp only [Exit.then]
    go_wp2_with fail
    go_ret
    exact ⟨rfl, st.1.2.2.2.2.2.2.2.2.2.2.2.2.2.2.2⟩
 | false =>
  obtain ⟨c0G, c1G, c2G⟩ := (st.1.2.2.2.2.1).c
  have hcc := progCoreG w6 r s (.slice aG nG cG) es st.1.2.2.2.2.1.rd hsb hes
  rw [← hCS.out, ← hCE.out] at hcc
  go_wp2_with fail
  refine hcc.mono ?_
  rintro e w7 ⟨aV, cV, rfl, hrow0, hbn0⟩
  clear hcc
  have hrow := hrow0.read
  clear hrow0
  clear c0G c1G c2G
  obtain ⟨nV, hnV⟩ := exq CE.length
  rw [← hnV] at hrow ⊢
  obtain ⟨xw7, yw7, YV, hAw, hYw, hCw, t0, t1, t2, ft, bx, hbC⟩ := box_new (r := r) (s := CS) hrow hnV
  replace hnV := hidI hnV
  replace st := st.adv hbn0
  replace st := (st.adv hbC).box bx
  clear hbn0 hrow hbC bx
  go_upto_region 17 with (first | rw [hAw.out] | rw [hYw.out] | fail)
  try rw [hYw.out]
  rw [hCw.out]
  clear t0 t1 t2 ft hAw hCw hYw
  obtain ⟨wd, hwd⟩ := exq yw7.drew
  have hbn : Below yw7.heap.size yw7 wd := by rw [hwd]; exact below_dn (Below.refl _ _) 1
  have hwdw := hidI hwd.symm
  replace hwd := hidI hwd
  replace st := st.adv hbn
  clear hbn
  obtain ⟨c0G, c1G, c2G⟩ := (st.1.2.2.2.2.2.1).c
  obtain ⟨c0V, c1V, c2V⟩ := (st.1.1).c
  refine hideQ (fun _ _ d _ _ h => by cases d <;> exact h) (fun Q' hnorm hpan => ?_)
  refine wp_region_held_drew (S := (fun W0 => W0.cell? ⟨YG, 0, none⟩ = some (.int .i64 r) ∧ W0.cell? ⟨YG, 1, none⟩ = some (.int .i64 s) ∧ W0.cell? ⟨YG, 2, none⟩ = some (.slice aG nG cG) ∧ W0.cell? ⟨YV, 0, none⟩ = some (.int .i64 r) ∧ W0.cell? ⟨YV, 1, none⟩ = some (.int .i64 CS) ∧ W0.cell? ⟨YV, 2, none⟩ = some (.slice aV nV cV))) (by kernel_rfl) ?_ (fun hHeld => ?_)
  · try dsimp only
    (try rw [hwdw.out]); ((repeat' apply And.intro) <;> with_reducible assumption)
  rw [hwdw.out] at hHeld ⊢
  refine tk 0 68 ?_
  refine tk 1 69 ?_
  refine rd 2 (fun K hK => ?_)
  rw [if_pos (by rfl)]
  go_simp
  have hcc := specCoreG wd r s (.slice aG nG cG) es st.1.2.2.2.2.2.1.rd hsb hes
  rw [← hCS.out, ← hCE.out] at hcc
  refine hcc.mono ?_
  rintro e w9 ⟨aD, cD, rfl, hrow0, hbn⟩
  have hrD := hidI hrow0.read
  clear hrow0
  clear hcc
  clear c0G c1G c2G c0V c1V c2V
  replace st := st.adv hbn
  clear hbn
  obtain ⟨c0G, c1G, c2G⟩ := (st.1.2.2.2.2.2.1).c
  obtain ⟨c0V, c1V, c2V⟩ := (st.1.1).c
  refine hK.out _ _ ?_ (fun hHeld => ?_)
  · try dsimp only
    (try rw [hwdw.out]); ((repeat' apply And.intro) <;> with_reducible assumption)
  clear hK
  try simp only [Act.put, lyA, lyB, lyC]
  refine rd 3 (fun K hK => ?_)
  rw [if_pos (by rfl)]
  go_simp
  have hcc := specEqG w9 r CS r CS (.slice aV nV cV) (.slice aD CE.length cD) CE CE st.1.1.rd hrD.out (by omega) (by omega)
  rw [eqG_self] at hcc
  refine hcc.mono ?_
  rintro e w10 ⟨rfl, hbn⟩
  clear hcc
  clear c0G c1G c2G c0V c1V c2V
  replace st := st.adv hbn
  clear hbn
  obtain ⟨c0G, c1G, c2G⟩ := (st.1.2.2.2.2.2.1).c
  obtain ⟨c0V, c1V, c2V⟩ := (st.1.1).c
  refine hK.out _ _ ?_ (fun hHeld => ?_)
  · try dsimp only
    (try rw [hwdw.out]); ((repeat' apply And.intro) <;> with_reducible assumption)
  clear hK
  try simp only [Act.put, lyA, lyB, lyC]
  refine tk 4 72 ?_
  refine tk 5 73 ?_
  refine tg 6 74 ?_
  refine rd 7 (fun K hK => ?_)
  rw [if_pos (by kernel_rfl)]
  go_simp
  have hcc := specIsGr w10 r s (.slice aG nG cG) es st.1.2.2.2.2.2.1.rd hsb (by omega)
  rw [← hBg.out] at hcc
  refine hcc.mono ?_
  rintro e w11 ⟨rfl, hbn⟩
  clear hcc
  clear c0G c1G c2G c0V c1V c2V
  replace st := st.adv hbn
  clear hbn
  obtain ⟨c0G, c1G, c2G⟩ := (st.1.2.2.2.2.2.1).c
  obtain ⟨c0V, c1V, c2V⟩ := (st.1.1).c
  refine hK.out _ _ ?_ (fun hHeld => ?_)
  · try dsimp only
    (try rw [hwdw.out]); ((repeat' apply And.intro) <;> with_reducible assumption)
  clear hK
  try simp only [Act.put, lyA, lyB, lyC]
  refine tg 8 76 ?_
  refine tn 9 77 ?_
  refine tn 10 78 ?_
  refine tn 11 79 ?_
  refine tn 12 80 ?_
  refine tn 13 81 ?_
  refine tn 15 83 ?_
  refine tn 14 82 ?_
  refine tn 16 84 ?_
  refine tn 17 85 ?_
  refine tn 18 86 ?_
  refine tg 19 87 ?_
  refine tk 20 88 ?_
  refine wpAnyH_done (by kernel_rfl) ?_ _
  refine hnorm _ _ ?_
  clear hnorm hpan
  repeat clear hHeld
  try simp only [Exit.then]
  clear c0G c1G c2G c0V c1V c2V
  have hcc := drawRen_any w11 a len cap (st.1.2.2.2.2.2.2.1)
  go_wp2_with fail
  refine hcc.mono ?_
  rintro e w12 ⟨rr, sr, er, zr, ⟨hPr1, hPr2, hPr3⟩, hzr, aR, cR, vR, rfl, hrow, hir, hbn0⟩
  clear hcc
  have hir9 := hir
  obtain ⟨_, vaR, vcR, rfl, _, _⟩ : ReadI _ _ vR zr := hir9
  obtain ⟨vnR, hvnR⟩ := exq zr.length
  rw [← hvnR] at hir ⊢
  replace hvnR := hidI hvnR
  unfold ReadE at hrow
  obtain ⟨nR, hnR⟩ := exq er.length
  rw [← hnR] at hrow ⊢
  obtain ⟨xw12, yw12, YR, hAw, hYw, hCw, t0, t1, t2, ft, bx, hbC⟩ := box_new (r := rr) (s := sr) hrow hnR
  replace hnR := hidI hnR
  replace st := st.adv hbn0
  replace st := st.int hir
  clear hir
  replace st := (st.adv hbC).box bx
  clear hbn0 hrow hbC bx
  go_upto_region 20 with (first | rw [hAw.out] | rw [hYw.out] | fail)
  try rw [hYw.out]
  rw [hCw.out]
  clear t0 t1 t2 ft hAw hCw hYw
  have hrl := rnE_length rr sr er zr
  have hsr : -9223372036854775808 ≤ sr ∧ sr ≤ 9223372036854775807 := by omega
  obtain ⟨RS, hRS⟩ := exq (rnS rr sr er zr)
  obtain ⟨RE, hRE⟩ := exq (rnE rr sr er zr)
  obtain ⟨RO, hRO⟩ := exq (okN rr sr er zr)
  rw [← hRE] at hrl
  replace hRS := hidI hRS
  replace hRE := hidI hRE
  replace hRO := hidI hRO
  obtain ⟨c0R, c1R, c2R⟩ := (st.1.1).c
  have hcc := progRenum yw12 rr sr (.slice aR nR cR) (.slice vaR vnR vcR) er zr st.1.1.rd (by omega) (st.1.2.1) (by omega)
  rw [← hRS.out, ← hRE.out, ← hRO.out] at hcc
  go_wp2_with fail
  refine hcc.mono ?_
  rintro e w13 ⟨aP, cP, rfl, hrow0, hbn0⟩
  clear hcc
  have hrow := hrow0.read
  clear hrow0
  clear c0R c1R c2R
  obtain ⟨nP, hnP⟩ := exq RE.length
  rw [← hnP] at hrow ⊢
  obtain ⟨xw13, yw13, YP, hAw, hYw, hCw, t0, t1, t2, ft, bx, hbC⟩ := box_new (r := rr) (s := RS) hrow hnP
  replace hnP := hidI hnP
  replace st := st.adv hbn0
  replace st := (st.adv hbC).box bx
  clear hbn0 hrow hbC bx
  go_upto_region 21 with (first | rw [hAw.out] | rw [hYw.out] | fail)
  try rw [hYw.out]
  rw [hCw.out]
  clear t0 t1 t2 ft hAw hCw hYw
  obtain ⟨c0R, c1R, c2R⟩ := (st.1.2.1).c
  have hcc := specRenum yw13 rr sr (.slice aR nR cR) (.slice vaR vnR vcR) er zr st.1.2.1.rd hsr (by omega) (st.1.2.2.1) (by omega)
  rw [← hRS.out, ← hRE.out, ← hRO.out] at hcc
  go_wp2_with fail
  refine hcc.mono ?_
  rintro e w14 ⟨aQ, cQ, rfl, hrow0, hbn0⟩
  clear hcc
  have hrow := hrow0.read
  clear hrow0
  clear c0R c1R c2R
  obtain ⟨nQ, hnQ⟩ := exq RE.length
  rw [← hnQ] at hrow ⊢
  obtain ⟨xw14, yw14, YQ, hAw, hYw, hCw, t0, t1, t2, ft, bx, hbC⟩ := box_new (r := rr) (s := RS) hrow hnQ
  replace hnQ := hidI hnQ
  replace st := st.adv hbn0
  replace st := (st.adv hbC).box bx
  clear hbn0 hrow hbC bx
  go_upto_region 22 with (first | rw [hAw.out] | rw [hYw.out] | fail)
  try rw [hYw.out]
  rw [hCw.out]
  clear t0 t1 t2 ft hAw hCw hYw
  have hcc := drawCanG_any yw14 a len cap (st.1.2.2.2.2.2.2.2.2.2.2.1)
  go_wp2_with fail
  refine hcc.mono ?_
  rintro e w15 ⟨ra, sa, ea, ⟨hPa1, hPa2, hPa3⟩, aA, cA, rfl, hrow0, hbn0⟩
  clear hcc
  have hrow := hrow0.read
  clear hrow0
  obtain ⟨nA, hnA⟩ := exq ea.length
  rw [← hnA] at hrow ⊢
  obtain ⟨xw15, yw15, YA, hAw, hYw, hCw, t0, t1, t2, ft, bx, hbC⟩ := box_new (r := ra) (s := sa) hrow hnA
  replace hnA := hidI hnA
  replace st := st.adv hbn0
  replace st := (st.adv hbC).box bx
  clear hbn0 hrow hbC bx
  go_upto_region 23 with (first | rw [hAw.out] | rw [hYw.out] | fail)
  try rw [hYw.out]
  rw [hCw.out]
  clear t0 t1 t2 ft hAw hCw hYw
  have hsa : -9223372036854775808 ≤ sa ∧ sa ≤ 9223372036854775807 := by omega
  have hgl := cgE_length ra sa ea
  obtain ⟨htw1, htw2⟩ := canon_twice ra sa ea
  obtain ⟨AS, hAS⟩ := exq (cgS ra sa ea)
  obtain ⟨AE, hAE⟩ := exq (cgE ra sa ea)
  obtain ⟨AO, hAO⟩ := exq (coL ra sa ea (letsN ra.toNat))
  rw [← hAE] at hgl
  rw [← hAS, ← hAE] at htw1 htw2
  replace hAS := hidI hAS
  replace hAE := hidI hAE
  replace hAO := hidI hAO
  replace htw1 := hidI htw1
  replace htw2 := hidI htw2
  obtain ⟨c0A, c1A, c2A⟩ := (st.1.1).c
  have hcc := progCanG yw15 ra sa (.slice aA nA cA) ea st.1.1.rd (by omega)
  rw [← hAS.out, ← hAE.out] at hcc
  go_wp2_with fail
  refine hcc.mono ?_
  rintro e w16 ⟨aB, cB, rfl, hrow0, hbn0⟩
  clear hcc
  have hrow := hrow0.read
  clear hrow0
  clear c0A c1A c2A
  obtain ⟨nB, hnB⟩ := exq AE.length
  rw [← hnB] at hrow ⊢
  obtain ⟨xw16, yw16, YB, hAw, hYw, hCw, t0, t1, t2, ft, bx, hbC⟩ := box_new (r := ra) (s := AS) hrow hnB
  replace hnB := hidI hnB
  replace st := st.adv hbn0
  replace st := (st.adv hbC).box bx
  clear hbn0 hrow hbC bx
  go_upto_region 24 with (first | rw [hAw.out] | rw [hYw.out] | fail)
  try rw [hYw.out]
  rw [hCw.out]
  clear t0 t1 t2 ft hAw hCw hYw
  have hcc := drawIsCo_any yw16 a len cap (st.1.2.2.2.2.2.2.2.2.2.2.2.2.1)
  go_wp2_with fail
  refine hcc.mono ?_
  rintro e w17 ⟨rt, stt, et, hPt1, hPt2, aT, cT, rfl, hrow0, hbn0⟩
  clear hcc
  have hrow := hrow0.read
  clear hrow0
  obtain ⟨nT, hnT⟩ := exq et.length
  rw [← hnT] at hrow ⊢
  obtain ⟨xw17, yw17, YT, hAw, hYw, hCw, t0, t1, t2, ft, bx, hbC⟩ := box_new (r := rt) (s := stt) hrow hnT
  replace hnT := hidI hnT
  replace st := st.adv hbn0
  replace st := (st.adv hbC).box bx
  clear hbn0 hrow hbC bx
  go_upto_region 25 with (first | rw [hAw.out] | rw [hYw.out] | fail)
  try rw [hYw.out]
  rw [hCw.out]
  clear t0 t1 t2 ft hAw hCw hYw
  have hcc := drawTree_any yw17 a len cap (st.1.2.2.2.2.2.2.2.2.2.2.2.2.2.1)
  go_wp2_with fail
  refine hcc.mono ?_
  rintro e w18 ⟨ru, su, eu, ⟨hPu1, hPu2, hPu3⟩, aU, cU, rfl, hrow0, hbn0⟩
  clear hcc
  have hrow := hrow0.read
  clear hrow0
  obtain ⟨nU, hnU⟩ := exq eu.length
  rw [← hnU] at hrow ⊢
  obtain ⟨xw18, yw18, YU, hAw, hYw, hCw, t0, t1, t2, ft, bx, hbC⟩ := box_new (r := ru) (s := su) hrow hnU
  replace hnU := hidI hnU
  replace st := st.adv hbn0
  replace st := (st.adv hbC).box bx
  clear hbn0 hrow hbC bx
  go_upto_region 26 with (first | rw [hAw.out] | rw [hYw.out] | fail)
  try rw [hYw.out]
  rw [hCw.out]
  clear t0 t1 t2 ft hAw hCw hYw
  have hsu : -9223372036854775808 ≤ su ∧ su ≤ 9223372036854775807 := by omega
  obtain ⟨FT, hFT⟩ := exq (isCo rt stt et)
  obtain ⟨FU, hFU⟩ := exq (treG ru su eu)
  replace hFT := hidI hFT
  replace hFU := hidI hFU
  have hROO : (RO == RO) = true := by simp
  have hFTT : (FT == FT) = true := by simp
  have hFUU : (FU == FU) = true := by simp
  obtain ⟨we, hwe⟩ := exq yw18.drew
  have hbn : Below yw18.heap.size yw18 we := by rw [hwe]; exact below_dn (Below.refl _ _) 1
  have hwew := hidI hwe.symm
  replace hwe := hidI hwe
  replace st := st.adv hbn
  clear hbn
  obtain ⟨c0P, c1P, c2P⟩ := (st.1.2.2.2.2.2.1).c
  obtain ⟨c0Q, c1Q, c2Q⟩ := (st.1.2.2.2.2.1).c
  obtain ⟨c0A, c1A, c2A⟩ := (st.1.2.2.2.1).c
  obtain ⟨c0B, c1B, c2B⟩ := (st.1.2.2.1).c
  obtain ⟨c0T, c1T, c2T⟩ := (st.1.2.1).c
  obtain ⟨c0U, c1U, c2U⟩ := (st.1.1).c
  refine hideQ (fun _ _ d _ _ h => by cases d <;> exact h) (fun Q' hnorm hpan => ?_)
  refine wp_region_held_drew (S := (fun W0 => W0.cell? ⟨YP, 0, none⟩ = some (.int .i64 rr) ∧ W0.cell? ⟨YP, 1, none⟩ = some (.int .i64 RS) ∧ W0.cell? ⟨YP, 2, none⟩ = some (.slice aP nP cP) ∧ W0.cell? ⟨YQ, 0, none⟩ = some (.int .i64 rr) ∧ W0.cell? ⟨YQ, 1, none⟩ = some (.int .i64 RS) ∧ W0.cell? ⟨YQ, 2, none⟩ = some (.slice aQ nQ cQ) ∧ W0.cell? ⟨YA, 0, none⟩ = some (.int .i64 ra) ∧ W0.cell? ⟨YA, 1, none⟩ = some (.int .i64 sa) ∧ W0.cell? ⟨YA, 2, none⟩ = some (.slice aA nA cA) ∧ W0.cell? ⟨YB, 0, none⟩ = some (.int .i64 ra) ∧ W0.cell? ⟨YB, 1, none⟩ = some (.int .i64 AS) ∧ W0.cell? ⟨YB, 2, none⟩ = some (.slice aB nB cB) ∧ W0.cell? ⟨YT, 0, none⟩ = some (.int .i64 rt) ∧ W0.cell? ⟨YT, 1, none⟩ = some (.int .i64 stt) ∧ W0.cell? ⟨YT, 2, none⟩ = some (.slice aT nT cT) ∧ W0.cell? ⟨YU, 0, none⟩ = some (.int .i64 ru) ∧ W0.cell? ⟨YU, 1, none⟩ = some (.int .i64 su) ∧ W0.cell? ⟨YU, 2, none⟩ = some (.slice aU nU cU))) (by kernel_rfl) ?_ (fun hHeld => ?_)
  · try dsimp only
    (try rw [hwew.out]); ((repeat' apply And.intro) <;> with_reducible assumption)
  rw [hwew.out] at hHeld ⊢
  refine tk 0 114 ?_
  refine tk 1 115 ?_
  refine tk 2 116 ?_
  try rw [hROO]
  refine tk 3 117 ?_
  refine tg 4 118 ?_
  refine tg 5 119 ?_
  refine rd 6 (fun K hK => ?_)
  rw [if_pos (by kernel_rfl)]
  go_simp
  have hcc := specEqG we rr RS rr RS (.slice aP nP cP) (.slice aQ nQ cQ) RE RE st.1.2.2.2.2.2.1.rd st.1.2.2.2.2.1.rd (by omega) (by omega)
  rw [eqG_self] at hcc
  refine hcc.mono ?_
  rintro e w20 ⟨rfl, hbn⟩
  clear hcc
  clear c0P c1P c2P c0Q c1Q c2Q c0A c1A c2A c0B c1B c2B c0T c1T c2T c0U c1U c2U
  replace st := st.adv hbn
  clear hbn
  obtain ⟨c0P, c1P, c2P⟩ := (st.1.2.2.2.2.2.1).c
  obtain ⟨c0Q, c1Q, c2Q⟩ := (st.1.2.2.2.2.1).c
  obtain ⟨c0A, c1A, c2A⟩ := (st.1.2.2.2.1).c
  obtain ⟨c0B, c1B, c2B⟩ := (st.1.2.2.1).c
  obtain ⟨c0T, c1T, c2T⟩ := (st.1.2.1).c
  obtain ⟨c0U, c1U, c2U⟩ := (st.1.1).c
  refine hK.out _ _ ?_ (fun hHeld => ?_)
  · try dsimp only
    (try rw [hwew.out]); ((repeat' apply And.intro) <;> with_reducible assumption)
  clear hK
  try simp only [Act.put, lyA, lyB, lyC]
  refine tg 7 121 ?_
  refine tg 8 122 ?_
  refine tg 9 123 ?_
  refine tg 10 124 ?_
  refine rd 11 (fun K hK => ?_)
  rw [if_pos (by kernel_rfl)]
  go_simp
  have hcc := specCanG w20 ra sa (.slice aA nA cA) ea st.1.2.2.2.1.rd hsa (by omega)
  rw [← hAS.out, ← hAE.out] at hcc
  refine hcc.mono ?_
  rintro e w21 ⟨aH, cH, rfl, hrow0, hbn⟩
  have hrH := hidI hrow0.read
  clear hrow0
  clear hcc
  clear c0P c1P c2P c0Q c1Q c2Q c0A c1A c2A c0B c1B c2B c0T c1T c2T c0U c1U c2U
  replace st := st.adv hbn
  clear hbn
  obtain ⟨c0P, c1P, c2P⟩ := (st.1.2.2.2.2.2.1).c
  obtain ⟨c0Q, c1Q, c2Q⟩ := (st.1.2.2.2.2.1).c
  obtain ⟨c0A, c1A, c2A⟩ := (st.1.2.2.2.1).c
  obtain ⟨c0B, c1B, c2B⟩ := (st.1.2.2.1).c
  obtain ⟨c0T, c1T, c2T⟩ := (st.1.2.1).c
  obtain ⟨c0U, c1U, c2U⟩ := (st.1.1).c
  refine hK.out _ _ ?_ (fun hHeld => ?_)
  · try dsimp only
    (try rw [hwew.out]); ((repeat' apply And.intro) <;> with_reducible assumption)
  clear hK
  try simp only [Act.put, lyA, lyB, lyC]
  refine rd 12 (fun K hK => ?_)
  rw [if_pos (by kernel_rfl)]
  go_simp
  have hcc := specEqG w21 ra AS ra AS (.slice aB nB cB) (.slice aH AE.length cH) AE AE st.1.2.2.1.rd hrH.out (by omega) (by omega)
  rw [eqG_self] at hcc
  refine hcc.mono ?_
  rintro e w22 ⟨rfl, hbn⟩
  clear hcc
  clear c0P c1P c2P c0Q c1Q c2Q c0A c1A c2A c0B c1B c2B c0T c1T c2T c0U c1U c2U
  replace st := st.adv hbn
  clear hbn
  obtain ⟨c0P, c1P, c2P⟩ := (st.1.2.2.2.2.2.1).c
  obtain ⟨c0Q, c1Q, c2Q⟩ := (st.1.2.2.2.2.1).c
  obtain ⟨c0A, c1A, c2A⟩ := (st.1.2.2.2.1).c
  obtain ⟨c0B, c1B, c2B⟩ := (st.1.2.2.1).c
  obtain ⟨c0T, c1T, c2T⟩ := (st.1.2.1).c
  obtain ⟨c0U, c1U, c2U⟩ := (st.1.1).c
  refine hK.out _ _ ?_ (fun hHeld => ?_)
  · try dsimp only
    (try rw [hwew.out]); ((repeat' apply And.intro) <;> with_reducible assumption)
  clear hK
  try simp only [Act.put, lyA, lyB, lyC]
  refine tg 13 127 ?_
  refine tg 14 128 ?_
  refine tg 15 129 ?_
  refine tg 17 131 ?_
  refine rd 16 (fun K hK => ?_)
  rw [if_pos (by kernel_rfl)]
  go_simp
  have hcc := progCanG w22 ra AS (.slice aB nB cB) AE st.1.2.2.1.rd (by omega)
  rw [htw1.out, htw2.out] at hcc
  refine hcc.mono ?_
  rintro e w23 ⟨aI, cI, rfl, hrow0, hbn⟩
  have hrI := hidI hrow0.read
  clear hrow0
  clear hcc
  clear c0P c1P c2P c0Q c1Q c2Q c0A c1A c2A c0B c1B c2B c0T c1T c2T c0U c1U c2U
  replace st := st.adv hbn
  clear hbn
  obtain ⟨c0P, c1P, c2P⟩ := (st.1.2.2.2.2.2.1).c
  obtain ⟨c0Q, c1Q, c2Q⟩ := (st.1.2.2.2.2.1).c
  obtain ⟨c0A, c1A, c2A⟩ := (st.1.2.2.2.1).c
  obtain ⟨c0B, c1B, c2B⟩ := (st.1.2.2.1).c
  obtain ⟨c0T, c1T, c2T⟩ := (st.1.2.1).c
  obtain ⟨c0U, c1U, c2U⟩ := (st.1.1).c
  refine hK.out _ _ ?_ (fun hHeld => ?_)
  · try dsimp only
    (try rw [hwew.out]); ((repeat' apply And.intro) <;> with_reducible assumption)
  clear hK
  try simp only [Act.put, lyA, lyB, lyC]
  refine rd 18 (fun K hK => ?_)
  rw [if_pos (by kernel_rfl)]
  go_simp
  have hcc := specEqG w23 ra AS ra AS (.slice aI AE.length cI) (.slice aB nB cB) AE AE hrI.out st.1.2.2.1.rd (by omega) (by omega)
  rw [eqG_self] at hcc
  refine hcc.mono ?_
  rintro e w24 ⟨rfl, hbn⟩
  clear hcc
  clear c0P c1P c2P c0Q c1Q c2Q c0A c1A c2A c0B c1B c2B c0T c1T c2T c0U c1U c2U
  replace st := st.adv hbn
  clear hbn
  obtain ⟨c0P, c1P, c2P⟩ := (st.1.2.2.2.2.2.1).c
  obtain ⟨c0Q, c1Q, c2Q⟩ := (st.1.2.2.2.2.1).c
  obtain ⟨c0A, c1A, c2A⟩ := (st.1.2.2.2.1).c
  obtain ⟨c0B, c1B, c2B⟩ := (st.1.2.2.1).c
  obtain ⟨c0T, c1T, c2T⟩ := (st.1.2.1).c
  obtain ⟨c0U, c1U, c2U⟩ := (st.1.1).c
  refine hK.out _ _ ?_ (fun hHeld => ?_)
  · try dsimp only
    (try rw [hwew.out]); ((repeat' apply And.intro) <;> with_reducible assumption)
  clear hK
  try simp only [Act.put, lyA, lyB, lyC]
  refine tg 19 133 ?_
  refine tg 20 134 ?_
  refine tg 21 135 ?_
  refine tg 23 137 ?_
  refine rd 22 (fun K hK => ?_)
  rw [if_pos (by kernel_rfl)]
  go_simp
  have hcc := progCanO w24 ra sa (.slice aA nA cA) ea st.1.2.2.2.1.rd (by omega)
  rw [← hAO.out] at hcc
  refine hcc.mono ?_
  rintro e w25 ⟨vJ, rfl, hrow0, hbn⟩
  have hrJ0 := hrow0.read
  have hrJ := hidI hrJ0
  clear hrow0 hrJ0
  clear hcc
  clear c0P c1P c2P c0Q c1Q c2Q c0A c1A c2A c0B c1B c2B c0T c1T c2T c0U c1U c2U
  replace st := st.adv hbn
  clear hbn
  obtain ⟨c0P, c1P, c2P⟩ := (st.1.2.2.2.2.2.1).c
  obtain ⟨c0Q, c1Q, c2Q⟩ := (st.1.2.2.2.2.1).c
  obtain ⟨c0A, c1A, c2A⟩ := (st.1.2.2.2.1).c
  obtain ⟨c0B, c1B, c2B⟩ := (st.1.2.2.1).c
  obtain ⟨c0T, c1T, c2T⟩ := (st.1.2.1).c
  obtain ⟨c0U, c1U, c2U⟩ := (st.1.1).c
  refine hK.out _ _ ?_ (fun hHeld => ?_)
  · try dsimp only
    (try rw [hwew.out]); ((repeat' apply And.intro) <;> with_reducible assumption)
  clear hK
  try simp only [Act.put, lyA, lyB, lyC]
  refine rd 24 (fun K hK => ?_)
  rw [if_pos (by kernel_rfl)]
  go_simp
  have hcc := specCanO w25 ra sa (.slice aA nA cA) ea st.1.2.2.2.1.rd hsa (by omega)
  rw [← hAO.out] at hcc
  refine hcc.mono ?_
  rintro e w26 ⟨vK, rfl, hrow0, hbn⟩
  have hrK := hidI hrow0.read
  replace hrJ := hidI ((hrJ.out.below hbn).mono hbn.size)
  clear hrow0
  clear hcc
  clear c0P c1P c2P c0Q c1Q c2Q c0A c1A c2A c0B c1B c2B c0T c1T c2T c0U c1U c2U
  replace st := st.adv hbn
  clear hbn
  obtain ⟨c0P, c1P, c2P⟩ := (st.1.2.2.2.2.2.1).c
  obtain ⟨c0Q, c1Q, c2Q⟩ := (st.1.2.2.2.2.1).c
  obtain ⟨c0A, c1A, c2A⟩ := (st.1.2.2.2.1).c
  obtain ⟨c0B, c1B, c2B⟩ := (st.1.2.2.1).c
  obtain ⟨c0T, c1T, c2T⟩ := (st.1.2.1).c
  obtain ⟨c0U, c1U, c2U⟩ := (st.1.1).c
  refine hK.out _ _ ?_ (fun hHeld => ?_)
  · try dsimp only
    (try rw [hwew.out]); ((repeat' apply And.intro) <;> with_reducible assumption)
  clear hK
  try simp only [Act.put, lyA, lyB, lyC]
  refine rd 25 (fun K hK => ?_)
  rw [if_pos (by kernel_rfl)]
  go_simp
  have hcc := sameInts_law w26 vJ vK AO hrJ.out hrK.out
  refine hcc.mono ?_
  rintro e w27 ⟨rfl, hbn, hsz9⟩
  clear hsz9
  clear hcc
  clear c0P c1P c2P c0Q c1Q c2Q c0A c1A c2A c0B c1B c2B c0T c1T c2T c0U c1U c2U
  replace st := st.adv hbn
  clear hbn
  obtain ⟨c0P, c1P, c2P⟩ := (st.1.2.2.2.2.2.1).c
  obtain ⟨c0Q, c1Q, c2Q⟩ := (st.1.2.2.2.2.1).c
  obtain ⟨c0A, c1A, c2A⟩ := (st.1.2.2.2.1).c
  obtain ⟨c0B, c1B, c2B⟩ := (st.1.2.2.1).c
  obtain ⟨c0T, c1T, c2T⟩ := (st.1.2.1).c
  obtain ⟨c0U, c1U, c2U⟩ := (st.1.1).c
  refine hK.out _ _ ?_ (fun hHeld => ?_)
  · try dsimp only
    (try rw [hwew.out]); ((repeat' apply And.intro) <;> with_reducible assumption)
  clear hK
  try simp only [Act.put, lyA, lyB, lyC]
  refine tg 26 140 ?_
  refine tg 27 141 ?_
  refine tg 28 142 ?_
  refine tg 30 144 ?_
  refine rd 29 (fun K hK => ?_)
  rw [if_pos (by kernel_rfl)]
  go_simp
  have hcc := progIsCo w27 rt stt (.slice aT nT cT) et st.1.2.1.rd (by omega)
  rw [← hFT.out] at hcc
  refine hcc.mono ?_
  rintro e w28 ⟨rfl, hbn⟩
  clear hcc
  clear c0P c1P c2P c0Q c1Q c2Q c0A c1A c2A c0B c1B c2B c0T c1T c2T c0U c1U c2U
  replace st := st.adv hbn
  clear hbn
  obtain ⟨c0P, c1P, c2P⟩ := (st.1.2.2.2.2.2.1).c
  obtain ⟨c0Q, c1Q, c2Q⟩ := (st.1.2.2.2.2.1).c
  obtain ⟨c0A, c1A, c2A⟩ := (st.1.2.2.2.1).c
  obtain ⟨c0B, c1B, c2B⟩ := (st.1.2.2.1).c
  obtain ⟨c0T, c1T, c2T⟩ := (st.1.2.1).c
  obtain ⟨c0U, c1U, c2U⟩ := (st.1.1).c
  refine hK.out _ _ ?_ (fun hHeld => ?_)
  · try dsimp only
    (try rw [hwew.out]); ((repeat' apply And.intro) <;> with_reducible assumption)
  clear hK
  try simp only [Act.put, lyA, lyB, lyC]
  refine rd 31 (fun K hK => ?_)
  rw [if_pos (by kernel_rfl)]
  go_simp
  have hcc := specIsCo w28 rt stt (.slice aT nT cT) et st.1.2.1.rd hPt2 (by omega)
  rw [← hFT.out] at hcc
  refine hcc.mono ?_
  rintro e w29 ⟨rfl, hbn⟩
  clear hcc
  clear c0P c1P c2P c0Q c1Q c2Q c0A c1A c2A c0B c1B c2B c0T c1T c2T c0U c1U c2U
  replace st := st.adv hbn
  clear hbn
  obtain ⟨c0P, c1P, c2P⟩ := (st.1.2.2.2.2.2.1).c
  obtain ⟨c0Q, c1Q, c2Q⟩ := (st.1.2.2.2.2.1).c
  obtain ⟨c0A, c1A, c2A⟩ := (st.1.2.2.2.1).c
  obtain ⟨c0B, c1B, c2B⟩ := (st.1.2.2.1).c
  obtain ⟨c0T, c1T, c2T⟩ := (st.1.2.1).c
  obtain ⟨c0U, c1U, c2U⟩ := (st.1.1).c
  refine hK.out _ _ ?_ (fun hHeld => ?_)
  · try dsimp only
    (try rw [hwew.out]); ((repeat' apply And.intro) <;> with_reducible assumption)
  clear hK
  try simp only [Act.put, lyA, lyB, lyC]
  refine tg 32 146 ?_
  try rw [hFTT]
  refine tg 33 147 ?_
  refine tg 34 148 ?_
  refine tg 35 149 ?_
  refine tg 37 151 ?_
  refine rd 36 (fun K hK => ?_)
  rw [if_pos (by kernel_rfl)]
  go_simp
  have hcc := progTree w29 ru su (.slice aU nU cU) eu st.1.1.rd hsu (by omega)
  rw [← hFU.out] at hcc
  refine hcc.mono ?_
  rintro e w30 ⟨rfl, hbn⟩
  clear hcc
  clear c0P c1P c2P c0Q c1Q c2Q c0A c1A c2A c0B c1B c2B c0T c1T c2T c0U c1U c2U
  replace st := st.adv hbn
  clear hbn
  obtain ⟨c0P, c1P, c2P⟩ := (st.1.2.2.2.2.2.1).c
  obtain ⟨c0Q, c1Q, c2Q⟩ := (st.1.2.2.2.2.1).c
  obtain ⟨c0A, c1A, c2A⟩ := (st.1.2.2.2.1).c
  obtain ⟨c0B, c1B, c2B⟩ := (st.1.2.2.1).c
  obtain ⟨c0T, c1T, c2T⟩ := (st.1.2.1).c
  obtain ⟨c0U, c1U, c2U⟩ := (st.1.1).c
  refine hK.out _ _ ?_ (fun hHeld => ?_)
  · try dsimp only
    (try rw [hwew.out]); ((repeat' apply And.intro) <;> with_reducible assumption)
  clear hK
  try simp only [Act.put, lyA, lyB, lyC]
  refine rd 38 (fun K hK => ?_)
  rw [if_pos (by kernel_rfl)]
  go_simp
  have hcc := specTree w30 ru su (.slice aU nU cU) eu st.1.1.rd hsu (by omega)
  rw [← hFU.out] at hcc
  refine hcc.mono ?_
  rintro e w31 ⟨rfl, hbn⟩
  clear hcc
  clear c0P c1P c2P c0Q c1Q c2Q c0A c1A c2A c0B c1B c2B c0T c1T c2T c0U c1U c2U
  replace st := st.adv hbn
  clear hbn
  obtain ⟨c0P, c1P, c2P⟩ := (st.1.2.2.2.2.2.1).c
  obtain ⟨c0Q, c1Q, c2Q⟩ := (st.1.2.2.2.2.1).c
  obtain ⟨c0A, c1A, c2A⟩ := (st.1.2.2.2.1).c
  obtain ⟨c0B, c1B, c2B⟩ := (st.1.2.2.1).c
  obtain ⟨c0T, c1T, c2T⟩ := (st.1.2.1).c
  obtain ⟨c0U, c1U, c2U⟩ := (st.1.1).c
  refine hK.out _ _ ?_ (fun hHeld => ?_)
  · try dsimp only
    (try rw [hwew.out]); ((repeat' apply And.intro) <;> with_reducible assumption)
  clear hK
  try simp only [Act.put, lyA, lyB, lyC]
  refine tg 39 153 ?_
  try rw [hFUU]
  refine tk 40 154 ?_
  refine tk 41 2 ?_
  refine wpAnyH_done (by kernel_rfl) ?_ _
  refine hnorm _ _ ?_
  clear hnorm hpan
  repeat clear hHeld
  try simp only [Exit.then]
  go_wp2_with fail
  go_ret
  exact ⟨rfl, st.1.2.2.2.2.2.2.2.2.2.2.2.2.2.2.2⟩
theorem walk (W : World) (a0 : Option Addr) (len0 cap0 : Nat) (z0 : List Int) (w0 : IsRow .u8 W a0 len0 cap0 z0) :
 Calls Tryz.prog 3 #[.slice a0 len0 cap0] W fun e w' => e = .returned (.bool true) ∧ Below W.heap.size W w' := by
 by_cases hbig : 1048576 < len0
 · go_enter Tryz.func3, Tryz.ntmps3
   go_wp2_with fail
   refine (big_yes _ a0 len0 cap0 hbig).mono ?_
   rintro e w1 ⟨rfl, rfl⟩
   go_wp2_with fail
   go_ret
   exact ⟨rfl, Below.refl _ _⟩
 · exact walk0 W a0 len0 cap0 (codeIn_row w0 (by omega)) (row_cap w0)
set_option maxRecDepth 100000 in
theorem lifted (os : Os) (started : os.Started) (H : Type) (enc : TypeId × Value → H) :
 ReturnsInHanded {} Tryz.checked os 3 .any (Rows.fnCoresSpec.pre6 enc Tryz.prog Tryz.f3 Rows.fnCoresRow.domain false) (Rows.fnCoresSpec.post enc Tryz.prog Tryz.f3 false true false false) := by
 refine returnsInHanded_of_change (C := Tryz.checked) own started (by kernel_rfl) Tryz.func3
  (ChangeSpec.witness6 (enc := enc) (C := Tryz.checked) false ⟨#[], #[.slice none 0 0], []⟩ 8 (by kernel_rfl) (by kernel_rfl) (by kernel_rfl) (by kernel_rfl)) ?_
 intro W base args ds gs before hval0 hW hcnd _
 have hval : ∀ (j : Nat) t v, Tryz.f3.params[j]? = some t → args[j]? = some v → Value.okWide Tryz.prog W .any base t v := hval0
 have hW' := hW
 obtain ⟨p, q, hA0, hV, rfl, hfz, hnd⟩ := hW
 have hA : DataW.TrodAll enc Tryz.prog W 0 (fun _ => true) true Tryz.f3.params.toList args.toList ds p := hA0
 rw [Tryz.params3] at hA hval
 obtain ⟨v0, vs0, d0, ds0, p0, q0, hargs, rfl, rfl, h0, r0⟩ := trodAll_cons hA
 obtain ⟨rfl, rfl, rfl⟩ := trodAll_nil r0
 obtain rfl : args = #[v0] := by cases args; simp_all
 obtain ⟨rfl, rfl⟩ := trodVars_none hV
 obtain ⟨a0, len0, cap0, rfl⟩ := okWide_slice Tryz.underlying22 (hval 0 22 v0 rfl rfl)
 have k0 := h0
 have lt0 : ∀ x ∈ p0, x.block < W.heap.size := by obtain ⟨m, hm⟩ := k0; exact DataW.trod_lt m _ _ _ hm
 obtain ⟨z0, w0⟩ : ∃ zs, IsRow .u8 W a0 len0 cap0 zs := by
  obtain ⟨fuel, hf⟩ := h0
  rcases open_ints Tryz.underlying22 Tryz.underlying5 (by kernel_rfl) hf with ⟨hcs, _⟩ | ⟨x, l, c, zs, hcs, _, hl, hm, hz, _, hcell, hwz⟩
  · simp [Value.cells] at hcs
    obtain ⟨rfl, rfl, rfl⟩ := hcs
    exact ⟨[], .inl ⟨rfl, rfl, rfl, rfl⟩⟩
  · simp [Value.cells] at hcs
    obtain ⟨rfl, rfl, rfl⟩ := hcs
    exact ⟨zs, .inr ⟨_, rfl, hl, hm, by simpa using hz, hcell, hwz⟩⟩
 clear hA0 hval0
 refine (walk W a0 len0 cap0 z0 w0).mono fun e W' ⟨he, hg⟩ => ?_
 subst he
 exact ⟨_, rfl, _, _, _, [], _, [], hW', trodAll_mk1 (shut_bool Tryz.underlying4 _), (trodAll_cons_mk (Below.trod laidOut (by kernel_rfl) (of_decide_eq_true (by kernel_rfl)) k0 hg lt0) trodAll_mk0), rfl, hg.frame _, fun h => by cases h⟩
theorem over : Rows.fnCoresRow.holds Tryz.pinned (OpenSpec.ofChange Rows.fnCoresSpec) :=
 OpenClaim.holds_of_wide 3 Tryz.f3 rfl rfl rfl rfl rfl rfl rfl ⟨rfl, rfl, rfl, rfl, rfl⟩ rfl rfl rfl rfl rfl (by kernel_rfl) Tryz.func3 (by kernel_rfl)
  (of_decide_eq_true (by kernel_rfl)) (by unfold Func.isWrapper; first | (rw [if_pos (by decide +kernel)]; kernel_rfl) | (rw [if_neg (by decide +kernel)]; exact ⟨rfl, rfl⟩))
  (fun os started H enc _ => lifted os started H enc)
theorem proved : Rows.FnCoresSaid := over
#print axioms proved
end Go.Proofs.YtlgieefojcgodaaGreat.fnCores
