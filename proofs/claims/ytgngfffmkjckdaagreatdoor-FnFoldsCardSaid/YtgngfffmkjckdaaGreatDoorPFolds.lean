/- For every slice of bytes, laws.FnFolds returns true and leaves its argument as it is: folding, single folds, folds in an order that is given and folds replayed, at the graphs drawn from the bytes. Conditions: the row's own: the tables of Go's library that it lists hold what the program's text lays (the card ties them). -/
import Derived.Test.YtgngfffmkjckdaaGreatDoorRB
import Derived.Test.YtgngfffmkjckdaaGreatDoorDL
import Derived.Test.YtgngfffmkjckdaaGreatDoorBY
import Derived.Test.YtgngfffmkjckdaaGreatDoorTR
import Derived.Test.YtgngfffmkjckdaaGreatDoorYR
import Derived.Test.YtgngfffmkjckdaaGreatDoorYH
import Derived.Test.YtgngfffmkjckdaaGreatDoorYP
import Derived.Test.YtgngfffmkjckdaaGreatDoorYK
import Derived.Test.YtgngfffmkjckdaaGreatDoorYF
import Derived.Test.YtgngfffmkjckdaaGreatDoorRI
import Derived.Test.YtgngfffmkjckdaaGreatDoorTie
import Derived.Test.YtgngfffmkjckdaaGreatDoorCards
import Derived.WalkKit
import Derived.ProofKit
import Derived.OpenShut
import Derived.ShutString
import Derived.Below
import Derived.LaidMore
import Derived.Stop.Joined
import Derived.SevenTiedAt
import Derived.Lib.LaidTab
import Derived.Lib.AppendIntMem
import Derived.Deep.DeepCutAuto
namespace Go.Proofs.YtgngfffmkjckdaaGreatDoor.fnFolds
open Go.ChangeShapes Go.WideShapes Go.ChangeAt Go.RowKit
open Go.ChangeMaps (open_string shut_string)
set_option linter.unusedVariables false

theorem own : ownKnob Tryz.prog.godebug = none := by kernel_rfl

theorem laidOut : laidOutB Tryz.prog = true := by kernel_rfl
set_option maxHeartbeats 51200000 in
set_option maxRecDepth 100000 in
theorem walk0 (w : World) (a : Option Addr) (len cap : Nat) (hcode : CodeIn w.heap.size w a len) (hcap : len ≤ cap) (htab0 : Tab w) :
    Calls Tryz.prog 3 #[.slice a len cap] w fun e w' => e = .returned (.bool true) ∧ Below w.heap.size w w' := by
  have hlen := hcode.1
  have st := St.beg hcode
  have htab := hidI htab0
  clear hcode htab0
  go_enter Tryz.func3, Tryz.ntmps3
  go_wp2_with fail
  refine (big_no _ a len cap hlen).mono ?_
  rintro e w0 ⟨rfl, rfl⟩
  have hcc := drawFA_any w a len cap st.1.1
  go_wp2_with fail
  refine hcc.mono ?_
  rintro e w1 ⟨r, s, es, hP, aG, cG, rfl, hrow0, hbn0⟩
  clear hcc
  have hrow := hrow0.read
  clear hrow0
  obtain ⟨hPr, hPs, hPe⟩ := hP
  have hes : es.length ≤ 1048576 := by omega
  have hsb : -9223372036854775808 ≤ s ∧ s ≤ 9223372036854775807 := by omega
  obtain ⟨nG, hnG⟩ : ∃ z, z = es.length := ⟨_, rfl⟩
  rw [← hnG] at hrow ⊢
  obtain ⟨xw1, yw1, YG, hAw, hYw, hCw, t0, t1, t2, ft, bx, hbC⟩ := box_new (r := r) (s := s) hrow hnG
  replace hnG := hidI hnG
  replace st := st.adv hbn0
  replace st := (st.adv hbC).box bx
  clear hbn0 hrow hbC bx
  go_upto_region 4 with (first | rw [hAw.out] | rw [hYw.out] | fail)
  try rw [hYw.out]
  rw [hCw.out]
  clear t0 t1 t2 ft hAw hCw hYw
  have hfel := (stN_len r s es 40)
  change (faE r s es).length ≤ es.length ∧ (faL r s es).length ≤ 40 at hfel
  have hfin : InF (faL r s es) := fun f hf => by have := fa_in r s es f hf; omega
  have hR1 : isGr r s es = true → reB r s es (faL r s es) = true ∧ reS r s es (faL r s es) = faS r s es ∧ reE r s es (faL r s es) = faE r s es := fun hg => fa_replay hg
  have hR2 : isGr r s es = true → isFo r (faS r s es) (faE r s es) = true ∧ faS r s es = s - ((faL r s es).length : Int) := fun hg => ⟨fa_folded hg, fa_size hg⟩
  have hfsb : -9223372036854775808 ≤ faS r s es ∧ faS r s es ≤ 9223372036854775807 := by
    cases hg : isGr r s es with
    | true => have := (hR2 hg).2; omega
    | false => rw [(fa_same hg).1]; exact hsb
  have hoel := onE_length r s es
  obtain ⟨FS, hFS⟩ : ∃ z, z = faS r s es := ⟨_, rfl⟩
  obtain ⟨FE, hFE⟩ : ∃ z, z = faE r s es := ⟨_, rfl⟩
  obtain ⟨FL, hFL⟩ : ∃ z, z = faL r s es := ⟨_, rfl⟩
  obtain ⟨Bg, hBg⟩ : ∃ z, z = isGr r s es := ⟨_, rfl⟩
  obtain ⟨OS, hOS⟩ : ∃ z, z = onS r s es := ⟨_, rfl⟩
  obtain ⟨OE, hOE⟩ : ∃ z, z = onE r s es := ⟨_, rfl⟩
  obtain ⟨FB, hFB⟩ : ∃ z, z = ffB r s es := ⟨_, rfl⟩
  obtain ⟨RB, hRB⟩ : ∃ z, z = reB r s es (faL r s es) := ⟨_, rfl⟩
  obtain ⟨RS, hRS⟩ : ∃ z, z = reS r s es (faL r s es) := ⟨_, rfl⟩
  obtain ⟨RE, hRE⟩ : ∃ z, z = reE r s es (faL r s es) := ⟨_, rfl⟩
  obtain ⟨⟨FK, FD⟩, hFF⟩ : ∃ F : tupF, F = ffF r s es := ⟨_, rfl⟩
  rw [← hRB, ← hRS, ← hRE] at hR1
  rw [← hFS] at hR1 hR2 hfsb
  rw [← hFE] at hR1 hR2 hfel
  rw [← hFL] at hR2 hfel hfin
  rw [← hBg] at hR1 hR2
  rw [← hOE] at hoel
  obtain ⟨hfe1, hfl1⟩ := hfel
  obtain ⟨FN, hFN⟩ : ∃ z, z = FL.length := ⟨_, rfl⟩
  rw [← hFN] at hR2 hfl1
  obtain ⟨T1, hT1⟩ : ∃ z, z = textF FL := ⟨_, rfl⟩
  have hT1e : (T1.toList != T1.toList) = false := by simp
  have hFBe : (FB == FB) = true := by simp
  replace hFS := hidI hFS
  replace hFE := hidI hFE
  replace hFL := hidI hFL
  replace hBg := hidI hBg
  replace hOS := hidI hOS
  replace hOE := hidI hOE
  replace hFB := hidI hFB
  replace hFF := hidI hFF
  replace hR1 := hidI hR1
  replace hR2 := hidI hR2
  replace hFN := hidI hFN
  replace hfin := hidI hfin
  replace hT1 := hidI hT1
  replace hRB := hidI hRB
  replace hRS := hidI hRS
  replace hRE := hidI hRE
  obtain ⟨c0G, c1G, c2G⟩ := (st.1.1).c
  have hcc := progAll yw1 r s (.slice aG nG cG) es st.1.1.rd (by omega)
  rw [← hFS.out, ← hFE.out, ← hFL.out] at hcc
  go_wp2_with fail
  refine hcc.mono ?_
  rintro e w2 ⟨aX, cX, vL1, glo, ghi, flo, fhi, rfl, hdj, hrow0, hrl, hbn0⟩
  clear hcc
  have hrow := hrow0.read.mono hdj.2.2.1
  have hrl2 := hrl.read.mono hdj.2.2.2.2.2.1
  obtain ⟨_, _, vaL1, vcL1, rfl, _, _⟩ := hrl2
  replace hrl2 := hrl.read.mono hdj.2.2.2.2.2.1
  clear hrow0 hrl hdj
  rw [← hFN.out] at hrl2 ⊢
  have hrl3 : ReadF w2.heap.size w2 (.slice vaL1 FN vcL1) FL := by have := hrl2; rw [hFN.out] at this ⊢; exact this
  clear hrl2
  clear c0G c1G c2G
  obtain ⟨nX, hnX⟩ : ∃ z, z = FE.length := ⟨_, rfl⟩
  rw [← hnX] at hrow ⊢
  obtain ⟨xw2, yw2, YX, hAw, hYw, hCw, t0, t1, t2, ft, bx, hbC⟩ := box_new (r := r) (s := FS) hrow hnX
  replace hnX := hidI hnX
  replace st := st.adv hbn0
  replace st := st.fol hrl3
  clear hrl3
  replace st := (st.adv hbC).box bx
  clear hbn0 hrow hbC bx
  go_upto_region 5 with (first | rw [hAw.out] | rw [hYw.out] | fail)
  try rw [hYw.out]
  rw [hCw.out]
  clear t0 t1 t2 ft hAw hCw hYw
  obtain ⟨c0G, c1G, c2G⟩ := (st.1.2.2.1).c
  have hcc := specAll yw2 r s (.slice aG nG cG) es st.1.2.2.1.rd hsb (by omega)
  rw [← hFS.out, ← hFE.out, ← hFL.out] at hcc
  go_wp2_with fail
  refine hcc.mono ?_
  rintro e w3 ⟨aY, cY, vL2, glo, ghi, flo, fhi, rfl, hdj, hrow0, hrl, hbn0⟩
  clear hcc
  have hrow := hrow0.read.mono hdj.2.2.1
  have hrl2 := hrl.read.mono hdj.2.2.2.2.2.1
  obtain ⟨_, _, vaL2, vcL2, rfl, _, _⟩ := hrl2
  replace hrl2 := hrl.read.mono hdj.2.2.2.2.2.1
  clear hrow0 hrl hdj
  rw [← hFN.out] at hrl2 ⊢
  have hrl3 : ReadF w3.heap.size w3 (.slice vaL2 FN vcL2) FL := by have := hrl2; rw [hFN.out] at this ⊢; exact this
  clear hrl2
  clear c0G c1G c2G
  obtain ⟨nY, hnY⟩ : ∃ z, z = FE.length := ⟨_, rfl⟩
  rw [← hnY] at hrow ⊢
  obtain ⟨xw3, yw3, YY, hAw, hYw, hCw, t0, t1, t2, ft, bx, hbC⟩ := box_new (r := r) (s := FS) hrow hnY
  replace hnY := hidI hnY
  replace st := st.adv hbn0
  replace st := st.fol hrl3
  clear hrl3
  replace st := (st.adv hbC).box bx
  clear hbn0 hrow hbC bx
  go_upto_region 6 with (first | rw [hAw.out] | rw [hYw.out] | fail)
  try rw [hYw.out]
  rw [hCw.out]
  clear t0 t1 t2 ft hAw hCw hYw
  obtain ⟨c0X, c1X, c2X⟩ := (st.1.2.2.1).c
  obtain ⟨c0Y, c1Y, c2Y⟩ := (st.1.1).c
  have hcc := specEqG yw3 r FS r FS (.slice aX nX cX) (.slice aY nY cY) FE FE st.1.2.2.1.rd st.1.1.rd (by omega) (by omega)
  rw [eqG_me] at hcc
  go_wp2_with fail
  refine hcc.mono ?_
  rintro e w4 ⟨rfl, hbn⟩
  clear hcc
  clear c0X c1X c2X c0Y c1Y c2Y
  replace st := st.adv hbn
  clear hbn
  have hnn : ((FN : Int) != (FN : Int)) = false := by simp
  have hcc := progFmtFs w4 (.slice vaL1 FN vcL1) FL (st.1.2.2.2.1) hfin.out (by have := hFN.out; omega) (htab.out.below st.1.2.2.2.2.2.2)
  rw [← hT1.out] at hcc
  go_wp2_with fail
  refine hcc.mono ?_
  rintro e w5 ⟨rfl, hbn⟩
  clear hcc
  replace st := st.adv hbn
  clear hbn
  have hcc := specFmtFs w5 (.slice vaL2 FN vcL2) FL (st.1.2.1) hfin.out (by have := hFN.out; omega)
  rw [← hT1.out] at hcc
  go_wp2_with fail
  refine hcc.mono ?_
  rintro e w6 ⟨rfl, hbn⟩
  clear hcc
  replace st := st.adv hbn
  clear hbn
  obtain ⟨c0G, c1G, c2G⟩ := (st.1.2.2.2.2.1).c
  have hcc := specIsGr w6 r s (.slice aG nG cG) es st.1.2.2.2.2.1.rd hsb (by omega)
  rw [← hBg.out] at hcc
  go_wp2_with fail
  refine hcc.mono ?_
  rintro e w7 ⟨rfl, hbn⟩
  clear hcc
  clear c0G c1G c2G
  replace st := st.adv hbn
  clear hbn
  cases Bg with
  | true =>
    replace hBg := hidI hBg
    obtain ⟨hq1, hq2, hq3⟩ := hR1.out rfl
    obtain ⟨hfo, hsz⟩ := hR2.out rfl
    obtain ⟨c0G, c1G, c2G⟩ := (st.1.2.2.2.2.1).c
    have hcc := progReplay w7 r s (.slice aG nG cG) (.slice vaL1 FN vcL1) es FL st.1.2.2.2.2.1.rd (by omega) (st.1.2.2.2.1) (by have := hFN.out; omega)
    rw [hFL.out, ← hRB.out, ← hRS.out, ← hRE.out, hq1, hq2, hq3] at hcc
    try rw [← hFL.out] at hcc
    have hszb : ((FS : Int) != s - (FN : Int)) = false := by rw [bne_eq_false_iff_eq]; exact hsz
    replace hsz := hidI hsz
    replace hq1 := hidI hq1
    replace hq2 := hidI hq2
    replace hq3 := hidI hq3
    go_wp2_with fail
    refine hcc.mono ?_
    rintro e w8 ⟨aZ, cZ, rfl, hrow0, hbn0⟩
    clear hcc
    have hrow := hrow0.read
    clear hrow0
    clear c0G c1G c2G
    obtain ⟨nZ, hnZ⟩ : ∃ z, z = FE.length := ⟨_, rfl⟩
    rw [← hnZ] at hrow ⊢
    obtain ⟨xw8, yw8, YZ, hAw, hYw, hCw, t0, t1, t2, ft, bx, hbC⟩ := box_new (r := r) (s := FS) hrow hnZ
    replace hnZ := hidI hnZ
    replace st := st.adv hbn0
    replace st := (st.adv hbC).box bx
    clear hbn0 hrow hbC bx
    go_upto_region 10 with (first | rw [hAw.out] | rw [hYw.out] | fail)
    try rw [hYw.out]
    rw [hCw.out]
    clear t0 t1 t2 ft hAw hCw hYw
    obtain ⟨c0Y, c1Y, c2Y⟩ := (st.1.2.1).c
    obtain ⟨c0G, c1G, c2G⟩ := (st.1.2.2.2.2.2.1).c
    obtain ⟨c0Z, c1Z, c2Z⟩ := (st.1.1).c
    have hcc := progFold yw8 r FS (.slice aY nY cY) FE st.1.2.1.rd (by omega)
    rw [hfo] at hcc
    replace hfo := hidI hfo
    have hwr : IntKind.i64.wrap (s - (FN : Int)) = s - (FN : Int) := IntWalk.i64_in _ ⟨by omega, by omega⟩
    go_wp2_with fail
    refine hcc.mono ?_
    rintro e w9 ⟨rfl, hbn⟩
    clear hcc
    clear c0Y c1Y c2Y c0G c1G c2G c0Z c1Z c2Z
    replace st := st.adv hbn
    clear hbn
    obtain ⟨c0Y, c1Y, c2Y⟩ := (st.1.2.1).c
    obtain ⟨c0G, c1G, c2G⟩ := (st.1.2.2.2.2.2.1).c
    obtain ⟨c0Z, c1Z, c2Z⟩ := (st.1.1).c
    have hcc := specEqG w9 r FS r FS (.slice aZ nZ cZ) (.slice aY nY cY) FE FE st.1.1.rd st.1.2.1.rd (by omega) (by omega)
    rw [eqG_me] at hcc
    go_wp2_with fail
    refine hcc.mono ?_
    rintro e w10 ⟨rfl, hbn⟩
    clear hcc
    clear c0Y c1Y c2Y c0G c1G c2G c0Z c1Z c2Z
    replace st := st.adv hbn
    clear hbn
    obtain ⟨c0G, c1G, c2G⟩ := (st.1.2.2.2.2.2.1).c
    have hcc := progFirst w10 r s (.slice aG nG cG) es st.1.2.2.2.2.2.1.rd (by omega)
    rw [← hFF.out, ← hFB.out] at hcc
    unfold LwFoldBool at hcc
    dsimp only at hcc
    go_wp2_with fail
    refine hcc.mono ?_
    rintro e w11 ⟨rfl, hbn0⟩
    clear hcc
    clear c0G c1G c2G
    obtain ⟨xw11, yw11, YFA, hAw, hYw, hCw, t0, t1, ft, bx, hbC⟩ := box_newF w11 FK FD
    replace st := ((st.adv hbn0).adv hbC).fbox bx
    clear hbn0 hbC bx
    go_upto_region 13 with (first | rw [hAw.out] | rw [hYw.out] | fail)
    try rw [hYw.out]
    rw [hCw.out]
    clear t0 t1 ft hAw hCw hYw
    obtain ⟨c0G, c1G, c2G⟩ := (st.1.2.2.2.2.2.2.1).c
    have hcc := specFirst yw11 r s (.slice aG nG cG) es st.1.2.2.2.2.2.2.1.rd hsb (by omega)
    rw [← hFF.out, ← hFB.out] at hcc
    unfold LwFoldBool at hcc
    dsimp only at hcc
    go_wp2_with fail
    refine hcc.mono ?_
    rintro e w12 ⟨rfl, hbn0⟩
    clear hcc
    clear c0G c1G c2G
    obtain ⟨xw12, yw12, YFB1, hAw, hYw, hCw, t0, t1, ft, bx, hbC⟩ := box_newF w12 FK FD
    replace st := ((st.adv hbn0).adv hbC).fbox bx
    clear hbn0 hbC bx
    go_upto_region 14 with (first | rw [hAw.out] | rw [hYw.out] | fail)
    try rw [hYw.out]
    rw [hCw.out]
    clear t0 t1 ft hAw hCw hYw
    have hcc := drawMV_any yw12 a len cap (st.1.2.2.2.2.2.2.2.2.1)
    go_wp2_with fail
    refine hcc.mono ?_
    rintro e w13 ⟨rm, sm, em, km, dm, ⟨hPm1, hPm2, hPm3⟩, aM, cM, rfl, hrow, hbn0⟩
    clear hcc
    unfold ReadE at hrow
    obtain ⟨nM, hnM⟩ : ∃ z, z = em.length := ⟨_, rfl⟩
    rw [← hnM] at hrow ⊢
    obtain ⟨xw13, xw132, yw131, yw13, YM, YMF, hAw, hBw, hYw, hZw, hZw2, hCw, hDw, t0, t1, t2, ft, u0, u1, fu, bx, bf, hbC⟩ := box_new2 (r := rm) (s := sm) hrow hnM km dm
    replace hnM := hidI hnM
    replace st := (((st.adv hbn0).adv hbC).fbox bf).box bx
    clear hbn0 hrow hbC bx bf
    go_upto_region 15 with (first | rw [hAw.out] | rw [hBw.out] | rw [hYw.out] | rw [hZw.out] | rw [hZw2.out] | rw [hCw.out] | fail)
    try rw [hYw.out]
    try rw [hZw2.out]
    try rw [hCw.out]
    rw [hDw.out]
    clear t0 t1 t2 ft u0 u1 fu hAw hBw hCw hDw hYw hZw hZw2
    have hml := mrE_length rm sm em (km, dm)
    have hsm : -9223372036854775808 ≤ sm ∧ sm ≤ 9223372036854775807 := by omega
    obtain ⟨MS, hMS⟩ : ∃ z, z = mrS rm sm em (km, dm) := ⟨_, rfl⟩
    obtain ⟨ME, hME⟩ : ∃ z, z = mrE rm sm em (km, dm) := ⟨_, rfl⟩
    obtain ⟨MB, hMB⟩ : ∃ z, z = okM rm sm em (km, dm) := ⟨_, rfl⟩
    rw [← hME] at hml
    have hMBe : (MB == MB) = true := by simp
    replace hMS := hidI hMS
    replace hME := hidI hME
    replace hMB := hidI hMB
    obtain ⟨c0M, c1M, c2M⟩ := (st.1.1).c
    obtain ⟨c0MF, c1MF⟩ := (st.1.2.1).c
    have hcc := progMerge yw13 rm sm km dm (.slice aM nM cM) em st.1.1.rd (by omega)
    rw [← hMS.out, ← hME.out, ← hMB.out] at hcc
    go_wp2_with fail
    refine hcc.mono ?_
    rintro e w14 ⟨aN1, cN1, rfl, hrow0, hbn0⟩
    clear hcc
    have hrow := hrow0.read
    clear hrow0
    clear c0M c1M c2M
    clear c0MF c1MF
    obtain ⟨nN1, hnN1⟩ : ∃ z, z = ME.length := ⟨_, rfl⟩
    rw [← hnN1] at hrow ⊢
    obtain ⟨xw14, yw14, YN1, hAw, hYw, hCw, t0, t1, t2, ft, bx, hbC⟩ := box_new (r := rm) (s := MS) hrow hnN1
    replace hnN1 := hidI hnN1
    replace st := st.adv hbn0
    replace st := (st.adv hbC).box bx
    clear hbn0 hrow hbC bx
    go_upto_region 16 with (first | rw [hAw.out] | rw [hYw.out] | fail)
    try rw [hYw.out]
    rw [hCw.out]
    clear t0 t1 t2 ft hAw hCw hYw
    obtain ⟨c0M, c1M, c2M⟩ := (st.1.2.1).c
    obtain ⟨c0MF, c1MF⟩ := (st.1.2.2.1).c
    have hcc := specMerge yw14 rm sm km dm (.slice aM nM cM) em st.1.2.1.rd hsm (by omega)
    rw [← hMS.out, ← hME.out, ← hMB.out] at hcc
    go_wp2_with fail
    refine hcc.mono ?_
    rintro e w15 ⟨aN2, cN2, rfl, hrow0, hbn0⟩
    clear hcc
    have hrow := hrow0.read
    clear hrow0
    clear c0M c1M c2M
    clear c0MF c1MF
    obtain ⟨nN2, hnN2⟩ : ∃ z, z = ME.length := ⟨_, rfl⟩
    rw [← hnN2] at hrow ⊢
    obtain ⟨xw15, yw15, YN2, hAw, hYw, hCw, t0, t1, t2, ft, bx, hbC⟩ := box_new (r := rm) (s := MS) hrow hnN2
    replace hnN2 := hidI hnN2
    replace st := st.adv hbn0
    replace st := (st.adv hbC).box bx
    clear hbn0 hrow hbC bx
    go_upto_region 17 with (first | rw [hAw.out] | rw [hYw.out] | fail)
    try rw [hYw.out]
    rw [hCw.out]
    clear t0 t1 t2 ft hAw hCw hYw
    obtain ⟨c0G, c1G, c2G⟩ := (st.1.2.2.2.2.2.2.2.2.2.2.2.1).c
    have hcc := progOnce yw15 r s (.slice aG nG cG) es st.1.2.2.2.2.2.2.2.2.2.2.2.1.rd (by omega)
    rw [← hOS.out, ← hOE.out, ← hFF.out, ← hFB.out] at hcc
    unfold LwGraphFoldBool at hcc
    dsimp only at hcc
    go_wp2_with fail
    refine hcc.mono ?_
    rintro e w16 ⟨aO1, cO1, rfl, hrow0, hbn0⟩
    clear hcc
    have hrow := hrow0.read
    clear hrow0
    clear c0G c1G c2G
    obtain ⟨nO1, hnO1⟩ : ∃ z, z = OE.length := ⟨_, rfl⟩
    rw [← hnO1] at hrow ⊢
    obtain ⟨xw16, xw162, yw161, yw16, YO1, YP1, hAw, hBw, hYw, hZw, hZw2, hCw, hDw, t0, t1, t2, ft, u0, u1, fu, bx, bf, hbC⟩ := box_new2 (r := r) (s := OS) hrow hnO1 FK FD
    replace hnO1 := hidI hnO1
    replace st := (((st.adv hbn0).adv hbC).fbox bf).box bx
    clear hbn0 hrow hbC bx bf
    go_upto_region 18 with (first | rw [hAw.out] | rw [hBw.out] | rw [hYw.out] | rw [hZw.out] | rw [hZw2.out] | rw [hCw.out] | fail)
    try rw [hYw.out]
    try rw [hZw2.out]
    try rw [hCw.out]
    rw [hDw.out]
    clear t0 t1 t2 ft u0 u1 fu hAw hBw hCw hDw hYw hZw hZw2
    obtain ⟨c0G, c1G, c2G⟩ := (st.1.2.2.2.2.2.2.2.2.2.2.2.2.2.1).c
    have hcc := specOnce yw16 r s (.slice aG nG cG) es st.1.2.2.2.2.2.2.2.2.2.2.2.2.2.1.rd hsb (by omega)
    rw [← hOS.out, ← hOE.out, ← hFF.out, ← hFB.out] at hcc
    unfold LwGraphFoldBool at hcc
    dsimp only at hcc
    go_wp2_with fail
    refine hcc.mono ?_
    rintro e w17 ⟨aO2, cO2, rfl, hrow0, hbn0⟩
    clear hcc
    have hrow := hrow0.read
    clear hrow0
    clear c0G c1G c2G
    obtain ⟨nO2, hnO2⟩ : ∃ z, z = OE.length := ⟨_, rfl⟩
    rw [← hnO2] at hrow ⊢
    obtain ⟨xw17, xw172, yw171, yw17, YO2, YP2, hAw, hBw, hYw, hZw, hZw2, hCw, hDw, t0, t1, t2, ft, u0, u1, fu, bx, bf, hbC⟩ := box_new2 (r := r) (s := OS) hrow hnO2 FK FD
    replace hnO2 := hidI hnO2
    replace st := (((st.adv hbn0).adv hbC).fbox bf).box bx
    clear hbn0 hrow hbC bx bf
    go_upto_region 19 with (first | rw [hAw.out] | rw [hBw.out] | rw [hYw.out] | rw [hZw.out] | rw [hZw2.out] | rw [hCw.out] | fail)
    try rw [hYw.out]
    try rw [hZw2.out]
    try rw [hCw.out]
    rw [hDw.out]
    clear t0 t1 t2 ft u0 u1 fu hAw hBw hCw hDw hYw hZw hZw2
    have hcc := drawRF_any yw17 a len cap (st.1.2.2.2.2.2.2.2.2.2.2.2.2.2.2.2.2.1)
    go_wp2_with fail
    refine hcc.mono ?_
    rintro e w18 ⟨rq, sq, eq, zq, ⟨hPq1, hPq2, hPq3⟩, hzq, aQ, cQ, vQ, rfl, hrow, hir, hbn0⟩
    clear hcc
    have hir9 := hir
    obtain ⟨_, _, vaQ, vcQ, rfl, _, _⟩ := hir9
    obtain ⟨vnQ, hvnQ⟩ : ∃ z, z = zq.length := ⟨_, rfl⟩
    rw [← hvnQ] at hir ⊢
    have hir3 : ReadF w18.heap.size w18 (.slice vaQ vnQ vcQ) zq := by have := hir; rw [hvnQ] at this ⊢; exact this
    clear hir
    replace hvnQ := hidI hvnQ
    unfold ReadE at hrow
    obtain ⟨nQ, hnQ⟩ : ∃ z, z = eq.length := ⟨_, rfl⟩
    rw [← hnQ] at hrow ⊢
    obtain ⟨xw18, yw18, YQ, hAw, hYw, hCw, t0, t1, t2, ft, bx, hbC⟩ := box_new (r := rq) (s := sq) hrow hnQ
    replace hnQ := hidI hnQ
    replace st := st.adv hbn0
    replace st := st.fol hir3
    clear hir3
    replace st := (st.adv hbC).box bx
    clear hbn0 hrow hbC bx
    go_upto_region 20 with (first | rw [hAw.out] | rw [hYw.out] | fail)
    try rw [hYw.out]
    rw [hCw.out]
    clear t0 t1 t2 ft hAw hCw hYw
    have hql := reE_length rq sq eq zq
    have hsq : -9223372036854775808 ≤ sq ∧ sq ≤ 9223372036854775807 := by omega
    obtain ⟨QS, hQS⟩ : ∃ z, z = reS rq sq eq zq := ⟨_, rfl⟩
    obtain ⟨QE, hQE⟩ : ∃ z, z = reE rq sq eq zq := ⟨_, rfl⟩
    obtain ⟨QB, hQB⟩ : ∃ z, z = reB rq sq eq zq := ⟨_, rfl⟩
    rw [← hQE] at hql
    have hQBe : (QB == QB) = true := by simp
    replace hQS := hidI hQS
    replace hQE := hidI hQE
    replace hQB := hidI hQB
    obtain ⟨c0Q, c1Q, c2Q⟩ := (st.1.1).c
    have hcc := progReplay yw18 rq sq (.slice aQ nQ cQ) (.slice vaQ vnQ vcQ) eq zq st.1.1.rd (by omega) (st.1.2.1) (by omega)
    rw [← hQS.out, ← hQE.out, ← hQB.out] at hcc
    go_wp2_with fail
    refine hcc.mono ?_
    rintro e w19 ⟨aS1, cS1, rfl, hrow0, hbn0⟩
    clear hcc
    have hrow := hrow0.read
    clear hrow0
    clear c0Q c1Q c2Q
    obtain ⟨nS1, hnS1⟩ : ∃ z, z = QE.length := ⟨_, rfl⟩
    rw [← hnS1] at hrow ⊢
    obtain ⟨xw19, yw19, YS1, hAw, hYw, hCw, t0, t1, t2, ft, bx, hbC⟩ := box_new (r := rq) (s := QS) hrow hnS1
    replace hnS1 := hidI hnS1
    replace st := st.adv hbn0
    replace st := (st.adv hbC).box bx
    clear hbn0 hrow hbC bx
    go_upto_region 21 with (first | rw [hAw.out] | rw [hYw.out] | fail)
    try rw [hYw.out]
    rw [hCw.out]
    clear t0 t1 t2 ft hAw hCw hYw
    obtain ⟨c0Q, c1Q, c2Q⟩ := (st.1.2.1).c
    have hcc := specReplay yw19 rq sq (.slice aQ nQ cQ) (.slice vaQ vnQ vcQ) eq zq st.1.2.1.rd hsq (by omega) (st.1.2.2.1) (by omega)
    rw [← hQS.out, ← hQE.out, ← hQB.out] at hcc
    go_wp2_with fail
    refine hcc.mono ?_
    rintro e w20 ⟨aS2, cS2, rfl, hrow0, hbn0⟩
    clear hcc
    have hrow := hrow0.read
    clear hrow0
    clear c0Q c1Q c2Q
    obtain ⟨nS2, hnS2⟩ : ∃ z, z = QE.length := ⟨_, rfl⟩
    rw [← hnS2] at hrow ⊢
    obtain ⟨xw20, yw20, YS2, hAw, hYw, hCw, t0, t1, t2, ft, bx, hbC⟩ := box_new (r := rq) (s := QS) hrow hnS2
    replace hnS2 := hidI hnS2
    replace st := st.adv hbn0
    replace st := (st.adv hbC).box bx
    clear hbn0 hrow hbC bx
    go_upto_region 22 with (first | rw [hAw.out] | rw [hYw.out] | fail)
    try rw [hYw.out]
    rw [hCw.out]
    clear t0 t1 t2 ft hAw hCw hYw
    have hcc := drawFO_any yw20 a len cap (st.1.2.2.2.2.2.2.2.2.2.2.2.2.2.2.2.2.2.2.2.2.1)
    go_wp2_with fail
    refine hcc.mono ?_
    rintro e w21 ⟨ri, si, ei, zi, ⟨hPi1, hPi2, hPi3⟩, hzi, aI, cI, vI, rfl, hrow, hir, hbn0⟩
    clear hcc
    have hir9 := hir
    obtain ⟨_, vaI, vcI, rfl, _, _⟩ : ReadI _ _ vI zi := hir9
    obtain ⟨vnI, hvnI⟩ : ∃ z, z = zi.length := ⟨_, rfl⟩
    rw [← hvnI] at hir ⊢
    replace hvnI := hidI hvnI
    unfold ReadE at hrow
    obtain ⟨nI, hnI⟩ : ∃ z, z = ei.length := ⟨_, rfl⟩
    rw [← hnI] at hrow ⊢
    obtain ⟨xw21, yw21, YI, hAw, hYw, hCw, t0, t1, t2, ft, bx, hbC⟩ := box_new (r := ri) (s := si) hrow hnI
    replace hnI := hidI hnI
    replace st := st.adv hbn0
    replace st := st.int hir
    clear hir
    replace st := (st.adv hbC).box bx
    clear hbn0 hrow hbC bx
    go_upto_region 23 with (first | rw [hAw.out] | rw [hYw.out] | fail)
    try rw [hYw.out]
    rw [hCw.out]
    clear t0 t1 t2 ft hAw hCw hYw
    have hjl := foE_length ri si ei zi
    have hjl2 := foL_length ri si ei zi
    have hjin : InF (foL ri si ei zi) := fun f hf => by have := fo_in ri si ei zi f hf; omega
    have hsi : -9223372036854775808 ≤ si ∧ si ≤ 9223372036854775807 := by omega
    obtain ⟨JS, hJS⟩ : ∃ z, z = foS ri si ei zi := ⟨_, rfl⟩
    obtain ⟨JE, hJE⟩ : ∃ z, z = foE ri si ei zi := ⟨_, rfl⟩
    obtain ⟨JL, hJL⟩ : ∃ z, z = foL ri si ei zi := ⟨_, rfl⟩
    rw [← hJE] at hjl
    rw [← hJL] at hjl2 hjin
    obtain ⟨JN, hJN⟩ : ∃ z, z = JL.length := ⟨_, rfl⟩
    obtain ⟨T2, hT2⟩ : ∃ z, z = textF JL := ⟨_, rfl⟩
    rw [← hJN] at hjl2
    have hT2e : (T2.toList == T2.toList) = true := by simp
    replace hJS := hidI hJS
    replace hJE := hidI hJE
    replace hJL := hidI hJL
    replace hJN := hidI hJN
    replace hT2 := hidI hT2
    replace hjin := hidI hjin
    obtain ⟨c0I, c1I, c2I⟩ := (st.1.1).c
    have hcc := progInOrder yw21 ri si (.slice aI nI cI) (.slice vaI vnI vcI) ei zi st.1.1.rd (by omega) (st.1.2.1) (by omega)
    rw [← hJS.out, ← hJE.out, ← hJL.out] at hcc
    go_wp2_with fail
    refine hcc.mono ?_
    rintro e w22 ⟨aJ1, cJ1, vK1, glo, ghi, flo, fhi, rfl, hdj, hrow0, hrl, hbn0⟩
    clear hcc
    have hrow := hrow0.read.mono hdj.2.2.1
    have hrl2 := hrl.read.mono hdj.2.2.2.2.2.1
    obtain ⟨_, _, vaK1, vcK1, rfl, _, _⟩ := hrl2
    replace hrl2 := hrl.read.mono hdj.2.2.2.2.2.1
    clear hrow0 hrl hdj
    rw [← hJN.out] at hrl2 ⊢
    have hrl3 : ReadF w22.heap.size w22 (.slice vaK1 JN vcK1) JL := by have := hrl2; rw [hJN.out] at this ⊢; exact this
    clear hrl2
    clear c0I c1I c2I
    obtain ⟨nJ1, hnJ1⟩ : ∃ z, z = JE.length := ⟨_, rfl⟩
    rw [← hnJ1] at hrow ⊢
    obtain ⟨xw22, yw22, YJ1, hAw, hYw, hCw, t0, t1, t2, ft, bx, hbC⟩ := box_new (r := ri) (s := JS) hrow hnJ1
    replace hnJ1 := hidI hnJ1
    replace st := st.adv hbn0
    replace st := st.fol hrl3
    clear hrl3
    replace st := (st.adv hbC).box bx
    clear hbn0 hrow hbC bx
    go_upto_region 24 with (first | rw [hAw.out] | rw [hYw.out] | fail)
    try rw [hYw.out]
    rw [hCw.out]
    clear t0 t1 t2 ft hAw hCw hYw
    obtain ⟨c0I, c1I, c2I⟩ := (st.1.2.2.1).c
    have hcc := specInOrder yw22 ri si (.slice aI nI cI) (.slice vaI vnI vcI) ei zi st.1.2.2.1.rd hsi (by omega) (st.1.2.2.2.1) (by omega)
    rw [← hJS.out, ← hJE.out, ← hJL.out] at hcc
    go_wp2_with fail
    refine hcc.mono ?_
    rintro e w23 ⟨aJ2, cJ2, vK2, glo, ghi, flo, fhi, rfl, hdj, hrow0, hrl, hbn0⟩
    clear hcc
    have hrow := hrow0.read.mono hdj.2.2.1
    have hrl2 := hrl.read.mono hdj.2.2.2.2.2.1
    obtain ⟨_, _, vaK2, vcK2, rfl, _, _⟩ := hrl2
    replace hrl2 := hrl.read.mono hdj.2.2.2.2.2.1
    clear hrow0 hrl hdj
    rw [← hJN.out] at hrl2 ⊢
    have hrl3 : ReadF w23.heap.size w23 (.slice vaK2 JN vcK2) JL := by have := hrl2; rw [hJN.out] at this ⊢; exact this
    clear hrl2
    clear c0I c1I c2I
    obtain ⟨nJ2, hnJ2⟩ : ∃ z, z = JE.length := ⟨_, rfl⟩
    rw [← hnJ2] at hrow ⊢
    obtain ⟨xw23, yw23, YJ2, hAw, hYw, hCw, t0, t1, t2, ft, bx, hbC⟩ := box_new (r := ri) (s := JS) hrow hnJ2
    replace hnJ2 := hidI hnJ2
    replace st := st.adv hbn0
    replace st := st.fol hrl3
    clear hrl3
    replace st := (st.adv hbC).box bx
    clear hbn0 hrow hbC bx
    go_upto_region 25 with (first | rw [hAw.out] | rw [hYw.out] | fail)
    try rw [hYw.out]
    rw [hCw.out]
    clear t0 t1 t2 ft hAw hCw hYw
    have hfe := fun W => fold_eql W FK FD
    obtain ⟨c0N1, c1N1, c2N1⟩ := (st.1.2.2.2.2.2.2.2.2.2.2.2.2.2.2.2.1).c
    obtain ⟨c0N2, c1N2, c2N2⟩ := (st.1.2.2.2.2.2.2.2.2.2.2.2.2.2.2.1).c
    obtain ⟨c0O1, c1O1, c2O1⟩ := (st.1.2.2.2.2.2.2.2.2.2.2.2.2.1).c
    obtain ⟨c0O2, c1O2, c2O2⟩ := (st.1.2.2.2.2.2.2.2.2.2.2.1).c
    obtain ⟨c0S1, c1S1, c2S1⟩ := (st.1.2.2.2.2.2.2.2.1).c
    obtain ⟨c0S2, c1S2, c2S2⟩ := (st.1.2.2.2.2.2.2.1).c
    obtain ⟨c0J1, c1J1, c2J1⟩ := (st.1.2.2.1).c
    obtain ⟨c0J2, c1J2, c2J2⟩ := (st.1.1).c
    obtain ⟨c0FA, c1FA⟩ := (st.1.2.2.2.2.2.2.2.2.2.2.2.2.2.2.2.2.2.2.2.1).c
    obtain ⟨c0FB1, c1FB1⟩ := (st.1.2.2.2.2.2.2.2.2.2.2.2.2.2.2.2.2.2.2.1).c
    obtain ⟨c0P1, c1P1⟩ := (st.1.2.2.2.2.2.2.2.2.2.2.2.2.2.1).c
    obtain ⟨c0P2, c1P2⟩ := (st.1.2.2.2.2.2.2.2.2.2.2.2.1).c
    have hcc := specEqG yw23 rm MS rm MS (.slice aN1 nN1 cN1) (.slice aN2 nN2 cN2) ME ME st.1.2.2.2.2.2.2.2.2.2.2.2.2.2.2.2.1.rd st.1.2.2.2.2.2.2.2.2.2.2.2.2.2.2.1.rd (by omega) (by omega)
    rw [eqG_me] at hcc
    go_wp2_with (rw [hfe])
    refine hcc.mono ?_
    rintro e w24 ⟨rfl, hbn⟩
    clear hcc
    clear c0N1 c1N1 c2N1 c0N2 c1N2 c2N2 c0O1 c1O1 c2O1 c0O2 c1O2 c2O2 c0S1 c1S1 c2S1 c0S2 c1S2 c2S2 c0J1 c1J1 c2J1 c0J2 c1J2 c2J2
    clear c0FA c1FA c0FB1 c1FB1 c0P1 c1P1 c0P2 c1P2
    replace st := st.adv hbn
    clear hbn
    obtain ⟨c0N1, c1N1, c2N1⟩ := (st.1.2.2.2.2.2.2.2.2.2.2.2.2.2.2.2.1).c
    obtain ⟨c0N2, c1N2, c2N2⟩ := (st.1.2.2.2.2.2.2.2.2.2.2.2.2.2.2.1).c
    obtain ⟨c0O1, c1O1, c2O1⟩ := (st.1.2.2.2.2.2.2.2.2.2.2.2.2.1).c
    obtain ⟨c0O2, c1O2, c2O2⟩ := (st.1.2.2.2.2.2.2.2.2.2.2.1).c
    obtain ⟨c0S1, c1S1, c2S1⟩ := (st.1.2.2.2.2.2.2.2.1).c
    obtain ⟨c0S2, c1S2, c2S2⟩ := (st.1.2.2.2.2.2.2.1).c
    obtain ⟨c0J1, c1J1, c2J1⟩ := (st.1.2.2.1).c
    obtain ⟨c0J2, c1J2, c2J2⟩ := (st.1.1).c
    obtain ⟨c0FA, c1FA⟩ := (st.1.2.2.2.2.2.2.2.2.2.2.2.2.2.2.2.2.2.2.2.1).c
    obtain ⟨c0FB1, c1FB1⟩ := (st.1.2.2.2.2.2.2.2.2.2.2.2.2.2.2.2.2.2.2.1).c
    obtain ⟨c0P1, c1P1⟩ := (st.1.2.2.2.2.2.2.2.2.2.2.2.2.2.1).c
    obtain ⟨c0P2, c1P2⟩ := (st.1.2.2.2.2.2.2.2.2.2.2.2.1).c
    have hcc := specEqG w24 r OS r OS (.slice aO1 nO1 cO1) (.slice aO2 nO2 cO2) OE OE st.1.2.2.2.2.2.2.2.2.2.2.2.2.1.rd st.1.2.2.2.2.2.2.2.2.2.2.1.rd (by omega) (by omega)
    rw [eqG_me] at hcc
    go_wp2_with (rw [hfe])
    refine hcc.mono ?_
    rintro e w25 ⟨rfl, hbn⟩
    clear hcc
    clear c0N1 c1N1 c2N1 c0N2 c1N2 c2N2 c0O1 c1O1 c2O1 c0O2 c1O2 c2O2 c0S1 c1S1 c2S1 c0S2 c1S2 c2S2 c0J1 c1J1 c2J1 c0J2 c1J2 c2J2
    clear c0FA c1FA c0FB1 c1FB1 c0P1 c1P1 c0P2 c1P2
    replace st := st.adv hbn
    clear hbn
    obtain ⟨c0N1, c1N1, c2N1⟩ := (st.1.2.2.2.2.2.2.2.2.2.2.2.2.2.2.2.1).c
    obtain ⟨c0N2, c1N2, c2N2⟩ := (st.1.2.2.2.2.2.2.2.2.2.2.2.2.2.2.1).c
    obtain ⟨c0O1, c1O1, c2O1⟩ := (st.1.2.2.2.2.2.2.2.2.2.2.2.2.1).c
    obtain ⟨c0O2, c1O2, c2O2⟩ := (st.1.2.2.2.2.2.2.2.2.2.2.1).c
    obtain ⟨c0S1, c1S1, c2S1⟩ := (st.1.2.2.2.2.2.2.2.1).c
    obtain ⟨c0S2, c1S2, c2S2⟩ := (st.1.2.2.2.2.2.2.1).c
    obtain ⟨c0J1, c1J1, c2J1⟩ := (st.1.2.2.1).c
    obtain ⟨c0J2, c1J2, c2J2⟩ := (st.1.1).c
    obtain ⟨c0FA, c1FA⟩ := (st.1.2.2.2.2.2.2.2.2.2.2.2.2.2.2.2.2.2.2.2.1).c
    obtain ⟨c0FB1, c1FB1⟩ := (st.1.2.2.2.2.2.2.2.2.2.2.2.2.2.2.2.2.2.2.1).c
    obtain ⟨c0P1, c1P1⟩ := (st.1.2.2.2.2.2.2.2.2.2.2.2.2.2.1).c
    obtain ⟨c0P2, c1P2⟩ := (st.1.2.2.2.2.2.2.2.2.2.2.2.1).c
    have hcc := specEqG w25 rq QS rq QS (.slice aS1 nS1 cS1) (.slice aS2 nS2 cS2) QE QE st.1.2.2.2.2.2.2.2.1.rd st.1.2.2.2.2.2.2.1.rd (by omega) (by omega)
    rw [eqG_me] at hcc
    go_wp2_with (rw [hfe])
    refine hcc.mono ?_
    rintro e w26 ⟨rfl, hbn⟩
    clear hcc
    clear c0N1 c1N1 c2N1 c0N2 c1N2 c2N2 c0O1 c1O1 c2O1 c0O2 c1O2 c2O2 c0S1 c1S1 c2S1 c0S2 c1S2 c2S2 c0J1 c1J1 c2J1 c0J2 c1J2 c2J2
    clear c0FA c1FA c0FB1 c1FB1 c0P1 c1P1 c0P2 c1P2
    replace st := st.adv hbn
    clear hbn
    obtain ⟨c0N1, c1N1, c2N1⟩ := (st.1.2.2.2.2.2.2.2.2.2.2.2.2.2.2.2.1).c
    obtain ⟨c0N2, c1N2, c2N2⟩ := (st.1.2.2.2.2.2.2.2.2.2.2.2.2.2.2.1).c
    obtain ⟨c0O1, c1O1, c2O1⟩ := (st.1.2.2.2.2.2.2.2.2.2.2.2.2.1).c
    obtain ⟨c0O2, c1O2, c2O2⟩ := (st.1.2.2.2.2.2.2.2.2.2.2.1).c
    obtain ⟨c0S1, c1S1, c2S1⟩ := (st.1.2.2.2.2.2.2.2.1).c
    obtain ⟨c0S2, c1S2, c2S2⟩ := (st.1.2.2.2.2.2.2.1).c
    obtain ⟨c0J1, c1J1, c2J1⟩ := (st.1.2.2.1).c
    obtain ⟨c0J2, c1J2, c2J2⟩ := (st.1.1).c
    obtain ⟨c0FA, c1FA⟩ := (st.1.2.2.2.2.2.2.2.2.2.2.2.2.2.2.2.2.2.2.2.1).c
    obtain ⟨c0FB1, c1FB1⟩ := (st.1.2.2.2.2.2.2.2.2.2.2.2.2.2.2.2.2.2.2.1).c
    obtain ⟨c0P1, c1P1⟩ := (st.1.2.2.2.2.2.2.2.2.2.2.2.2.2.1).c
    obtain ⟨c0P2, c1P2⟩ := (st.1.2.2.2.2.2.2.2.2.2.2.2.1).c
    have hcc := specEqG w26 ri JS ri JS (.slice aJ1 nJ1 cJ1) (.slice aJ2 nJ2 cJ2) JE JE st.1.2.2.1.rd st.1.1.rd (by omega) (by omega)
    rw [eqG_me] at hcc
    go_wp2_with (rw [hfe])
    refine hcc.mono ?_
    rintro e w27 ⟨rfl, hbn⟩
    clear hcc
    clear c0N1 c1N1 c2N1 c0N2 c1N2 c2N2 c0O1 c1O1 c2O1 c0O2 c1O2 c2O2 c0S1 c1S1 c2S1 c0S2 c1S2 c2S2 c0J1 c1J1 c2J1 c0J2 c1J2 c2J2
    clear c0FA c1FA c0FB1 c1FB1 c0P1 c1P1 c0P2 c1P2
    replace st := st.adv hbn
    clear hbn
    have hcc := progFmtFs w27 (.slice vaK1 JN vcK1) JL (st.1.2.2.2.1) hjin.out (by have := hJN.out; omega) (htab.out.below st.1.2.2.2.2.2.2.2.2.2.2.2.2.2.2.2.2.2.2.2.2.2.2.2.2.2.2.2)
    rw [← hT2.out] at hcc
    go_wp2_with (rw [hfe])
    refine hcc.mono ?_
    rintro e w28 ⟨rfl, hbn⟩
    clear hcc
    replace st := st.adv hbn
    clear hbn
    have hcc := specFmtFs w28 (.slice vaK2 JN vcK2) JL (st.1.2.1) hjin.out (by have := hJN.out; omega)
    rw [← hT2.out] at hcc
    go_wp2_with (rw [hfe])
    refine hcc.mono ?_
    rintro e w29 ⟨rfl, hbn⟩
    clear hcc
    replace st := st.adv hbn
    clear hbn
    go_wp2_with (rw [hfe])
    go_ret
    exact ⟨rfl, st.1.2.2.2.2.2.2.2.2.2.2.2.2.2.2.2.2.2.2.2.2.2.2.2.2.2.2.2⟩
  | false =>
    replace hBg := hidI hBg
    obtain ⟨c0G, c1G, c2G⟩ := (st.1.2.2.2.2.1).c
    have hcc := progFirst w7 r s (.slice aG nG cG) es st.1.2.2.2.2.1.rd (by omega)
    rw [← hFF.out, ← hFB.out] at hcc
    unfold LwFoldBool at hcc
    dsimp only at hcc
    go_wp2_with fail
    refine hcc.mono ?_
    rintro e w8 ⟨rfl, hbn0⟩
    clear hcc
    clear c0G c1G c2G
    obtain ⟨xw8, yw8, YFA, hAw, hYw, hCw, t0, t1, ft, bx, hbC⟩ := box_newF w8 FK FD
    replace st := ((st.adv hbn0).adv hbC).fbox bx
    clear hbn0 hbC bx
    go_upto_region 13 with (first | rw [hAw.out] | rw [hYw.out] | fail)
    try rw [hYw.out]
    rw [hCw.out]
    clear t0 t1 ft hAw hCw hYw
    obtain ⟨c0G, c1G, c2G⟩ := (st.1.2.2.2.2.2.1).c
    have hcc := specFirst yw8 r s (.slice aG nG cG) es st.1.2.2.2.2.2.1.rd hsb (by omega)
    rw [← hFF.out, ← hFB.out] at hcc
    unfold LwFoldBool at hcc
    dsimp only at hcc
    go_wp2_with fail
    refine hcc.mono ?_
    rintro e w9 ⟨rfl, hbn0⟩
    clear hcc
    clear c0G c1G c2G
    obtain ⟨xw9, yw9, YFB1, hAw, hYw, hCw, t0, t1, ft, bx, hbC⟩ := box_newF w9 FK FD
    replace st := ((st.adv hbn0).adv hbC).fbox bx
    clear hbn0 hbC bx
    go_upto_region 14 with (first | rw [hAw.out] | rw [hYw.out] | fail)
    try rw [hYw.out]
    rw [hCw.out]
    clear t0 t1 ft hAw hCw hYw
    have hcc := drawMV_any yw9 a len cap (st.1.2.2.2.2.2.2.2.1)
    go_wp2_with fail
    refine hcc.mono ?_
    rintro e w10 ⟨rm, sm, em, km, dm, ⟨hPm1, hPm2, hPm3⟩, aM, cM, rfl, hrow, hbn0⟩
    clear hcc
    unfold ReadE at hrow
    obtain ⟨nM, hnM⟩ : ∃ z, z = em.length := ⟨_, rfl⟩
    rw [← hnM] at hrow ⊢
    obtain ⟨xw10, xw102, yw101, yw10, YM, YMF, hAw, hBw, hYw, hZw, hZw2, hCw, hDw, t0, t1, t2, ft, u0, u1, fu, bx, bf, hbC⟩ := box_new2 (r := rm) (s := sm) hrow hnM km dm
    replace hnM := hidI hnM
    replace st := (((st.adv hbn0).adv hbC).fbox bf).box bx
    clear hbn0 hrow hbC bx bf
    go_upto_region 15 with (first | rw [hAw.out] | rw [hBw.out] | rw [hYw.out] | rw [hZw.out] | rw [hZw2.out] | rw [hCw.out] | fail)
    try rw [hYw.out]
    try rw [hZw2.out]
    try rw [hCw.out]
    rw [hDw.out]
    clear t0 t1 t2 ft u0 u1 fu hAw hBw hCw hDw hYw hZw hZw2
    have hml := mrE_length rm sm em (km, dm)
    have hsm : -9223372036854775808 ≤ sm ∧ sm ≤ 9223372036854775807 := by omega
    obtain ⟨MS, hMS⟩ : ∃ z, z = mrS rm sm em (km, dm) := ⟨_, rfl⟩
    obtain ⟨ME, hME⟩ : ∃ z, z = mrE rm sm em (km, dm) := ⟨_, rfl⟩
    obtain ⟨MB, hMB⟩ : ∃ z, z = okM rm sm em (km, dm) := ⟨_, rfl⟩
    rw [← hME] at hml
    have hMBe : (MB == MB) = true := by simp
    replace hMS := hidI hMS
    replace hME := hidI hME
    replace hMB := hidI hMB
    obtain ⟨c0M, c1M, c2M⟩ := (st.1.1).c
    obtain ⟨c0MF, c1MF⟩ := (st.1.2.1).c
    have hcc := progMerge yw10 rm sm km dm (.slice aM nM cM) em st.1.1.rd (by omega)
    rw [← hMS.out, ← hME.out, ← hMB.out] at hcc
    go_wp2_with fail
    refine hcc.mono ?_
    rintro e w11 ⟨aN1, cN1, rfl, hrow0, hbn0⟩
    clear hcc
    have hrow := hrow0.read
    clear hrow0
    clear c0M c1M c2M
    clear c0MF c1MF
    obtain ⟨nN1, hnN1⟩ : ∃ z, z = ME.length := ⟨_, rfl⟩
    rw [← hnN1] at hrow ⊢
    obtain ⟨xw11, yw11, YN1, hAw, hYw, hCw, t0, t1, t2, ft, bx, hbC⟩ := box_new (r := rm) (s := MS) hrow hnN1
    replace hnN1 := hidI hnN1
    replace st := st.adv hbn0
    replace st := (st.adv hbC).box bx
    clear hbn0 hrow hbC bx
    go_upto_region 16 with (first | rw [hAw.out] | rw [hYw.out] | fail)
    try rw [hYw.out]
    rw [hCw.out]
    clear t0 t1 t2 ft hAw hCw hYw
    obtain ⟨c0M, c1M, c2M⟩ := (st.1.2.1).c
    obtain ⟨c0MF, c1MF⟩ := (st.1.2.2.1).c
    have hcc := specMerge yw11 rm sm km dm (.slice aM nM cM) em st.1.2.1.rd hsm (by omega)
    rw [← hMS.out, ← hME.out, ← hMB.out] at hcc
    go_wp2_with fail
    refine hcc.mono ?_
    rintro e w12 ⟨aN2, cN2, rfl, hrow0, hbn0⟩
    clear hcc
    have hrow := hrow0.read
    clear hrow0
    clear c0M c1M c2M
    clear c0MF c1MF
    obtain ⟨nN2, hnN2⟩ : ∃ z, z = ME.length := ⟨_, rfl⟩
    rw [← hnN2] at hrow ⊢
    obtain ⟨xw12, yw12, YN2, hAw, hYw, hCw, t0, t1, t2, ft, bx, hbC⟩ := box_new (r := rm) (s := MS) hrow hnN2
    replace hnN2 := hidI hnN2
    replace st := st.adv hbn0
    replace st := (st.adv hbC).box bx
    clear hbn0 hrow hbC bx
    go_upto_region 17 with (first | rw [hAw.out] | rw [hYw.out] | fail)
    try rw [hYw.out]
    rw [hCw.out]
    clear t0 t1 t2 ft hAw hCw hYw
    obtain ⟨c0G, c1G, c2G⟩ := (st.1.2.2.2.2.2.2.2.2.2.2.1).c
    have hcc := progOnce yw12 r s (.slice aG nG cG) es st.1.2.2.2.2.2.2.2.2.2.2.1.rd (by omega)
    rw [← hOS.out, ← hOE.out, ← hFF.out, ← hFB.out] at hcc
    unfold LwGraphFoldBool at hcc
    dsimp only at hcc
    go_wp2_with fail
    refine hcc.mono ?_
    rintro e w13 ⟨aO1, cO1, rfl, hrow0, hbn0⟩
    clear hcc
    have hrow := hrow0.read
    clear hrow0
    clear c0G c1G c2G
    obtain ⟨nO1, hnO1⟩ : ∃ z, z = OE.length := ⟨_, rfl⟩
    rw [← hnO1] at hrow ⊢
    obtain ⟨xw13, xw132, yw131, yw13, YO1, YP1, hAw, hBw, hYw, hZw, hZw2, hCw, hDw, t0, t1, t2, ft, u0, u1, fu, bx, bf, hbC⟩ := box_new2 (r := r) (s := OS) hrow hnO1 FK FD
    replace hnO1 := hidI hnO1
    replace st := (((st.adv hbn0).adv hbC).fbox bf).box bx
    clear hbn0 hrow hbC bx bf
    go_upto_region 18 with (first | rw [hAw.out] | rw [hBw.out] | rw [hYw.out] | rw [hZw.out] | rw [hZw2.out] | rw [hCw.out] | fail)
    try rw [hYw.out]
    try rw [hZw2.out]
    try rw [hCw.out]
    rw [hDw.out]
    clear t0 t1 t2 ft u0 u1 fu hAw hBw hCw hDw hYw hZw hZw2
    obtain ⟨c0G, c1G, c2G⟩ := (st.1.2.2.2.2.2.2.2.2.2.2.2.2.1).c
    have hcc := specOnce yw13 r s (.slice aG nG cG) es st.1.2.2.2.2.2.2.2.2.2.2.2.2.1.rd hsb (by omega)
    rw [← hOS.out, ← hOE.out, ← hFF.out, ← hFB.out] at hcc
    unfold LwGraphFoldBool at hcc
    dsimp only at hcc
    go_wp2_with fail
    refine hcc.mono ?_
    rintro e w14 ⟨aO2, cO2, rfl, hrow0, hbn0⟩
    clear hcc
    have hrow := hrow0.read
    clear hrow0
    clear c0G c1G c2G
    obtain ⟨nO2, hnO2⟩ : ∃ z, z = OE.length := ⟨_, rfl⟩
    rw [← hnO2] at hrow ⊢
    obtain ⟨xw14, xw142, yw141, yw14, YO2, YP2, hAw, hBw, hYw, hZw, hZw2, hCw, hDw, t0, t1, t2, ft, u0, u1, fu, bx, bf, hbC⟩ := box_new2 (r := r) (s := OS) hrow hnO2 FK FD
    replace hnO2 := hidI hnO2
    replace st := (((st.adv hbn0).adv hbC).fbox bf).box bx
    clear hbn0 hrow hbC bx bf
    go_upto_region 19 with (first | rw [hAw.out] | rw [hBw.out] | rw [hYw.out] | rw [hZw.out] | rw [hZw2.out] | rw [hCw.out] | fail)
    try rw [hYw.out]
    try rw [hZw2.out]
    try rw [hCw.out]
    rw [hDw.out]
    clear t0 t1 t2 ft u0 u1 fu hAw hBw hCw hDw hYw hZw hZw2
    have hcc := drawRF_any yw14 a len cap (st.1.2.2.2.2.2.2.2.2.2.2.2.2.2.2.2.1)
    go_wp2_with fail
    refine hcc.mono ?_
    rintro e w15 ⟨rq, sq, eq, zq, ⟨hPq1, hPq2, hPq3⟩, hzq, aQ, cQ, vQ, rfl, hrow, hir, hbn0⟩
    clear hcc
    have hir9 := hir
    obtain ⟨_, _, vaQ, vcQ, rfl, _, _⟩ := hir9
    obtain ⟨vnQ, hvnQ⟩ : ∃ z, z = zq.length := ⟨_, rfl⟩
    rw [← hvnQ] at hir ⊢
    have hir3 : ReadF w15.heap.size w15 (.slice vaQ vnQ vcQ) zq := by have := hir; rw [hvnQ] at this ⊢; exact this
    clear hir
    replace hvnQ := hidI hvnQ
    unfold ReadE at hrow
    obtain ⟨nQ, hnQ⟩ : ∃ z, z = eq.length := ⟨_, rfl⟩
    rw [← hnQ] at hrow ⊢
    obtain ⟨xw15, yw15, YQ, hAw, hYw, hCw, t0, t1, t2, ft, bx, hbC⟩ := box_new (r := rq) (s := sq) hrow hnQ
    replace hnQ := hidI hnQ
    replace st := st.adv hbn0
    replace st := st.fol hir3
    clear hir3
    replace st := (st.adv hbC).box bx
    clear hbn0 hrow hbC bx
    go_upto_region 20 with (first | rw [hAw.out] | rw [hYw.out] | fail)
    try rw [hYw.out]
    rw [hCw.out]
    clear t0 t1 t2 ft hAw hCw hYw
    have hql := reE_length rq sq eq zq
    have hsq : -9223372036854775808 ≤ sq ∧ sq ≤ 9223372036854775807 := by omega
    obtain ⟨QS, hQS⟩ : ∃ z, z = reS rq sq eq zq := ⟨_, rfl⟩
    obtain ⟨QE, hQE⟩ : ∃ z, z = reE rq sq eq zq := ⟨_, rfl⟩
    obtain ⟨QB, hQB⟩ : ∃ z, z = reB rq sq eq zq := ⟨_, rfl⟩
    rw [← hQE] at hql
    have hQBe : (QB == QB) = true := by simp
    replace hQS := hidI hQS
    replace hQE := hidI hQE
    replace hQB := hidI hQB
    obtain ⟨c0Q, c1Q, c2Q⟩ := (st.1.1).c
    have hcc := progReplay yw15 rq sq (.slice aQ nQ cQ) (.slice vaQ vnQ vcQ) eq zq st.1.1.rd (by omega) (st.1.2.1) (by omega)
    rw [← hQS.out, ← hQE.out, ← hQB.out] at hcc
    go_wp2_with fail
    refine hcc.mono ?_
    rintro e w16 ⟨aS1, cS1, rfl, hrow0, hbn0⟩
    clear hcc
    have hrow := hrow0.read
    clear hrow0
    clear c0Q c1Q c2Q
    obtain ⟨nS1, hnS1⟩ : ∃ z, z = QE.length := ⟨_, rfl⟩
    rw [← hnS1] at hrow ⊢
    obtain ⟨xw16, yw16, YS1, hAw, hYw, hCw, t0, t1, t2, ft, bx, hbC⟩ := box_new (r := rq) (s := QS) hrow hnS1
    replace hnS1 := hidI hnS1
    replace st := st.adv hbn0
    replace st := (st.adv hbC).box bx
    clear hbn0 hrow hbC bx
    go_upto_region 21 with (first | rw [hAw.out] | rw [hYw.out] | fail)
    try rw [hYw.out]
    rw [hCw.out]
    clear t0 t1 t2 ft hAw hCw hYw
    obtain ⟨c0Q, c1Q, c2Q⟩ := (st.1.2.1).c
    have hcc := specReplay yw16 rq sq (.slice aQ nQ cQ) (.slice vaQ vnQ vcQ) eq zq st.1.2.1.rd hsq (by omega) (st.1.2.2.1) (by omega)
    rw [← hQS.out, ← hQE.out, ← hQB.out] at hcc
    go_wp2_with fail
    refine hcc.mono ?_
    rintro e w17 ⟨aS2, cS2, rfl, hrow0, hbn0⟩
    clear hcc
    have hrow := hrow0.read
    clear hrow0
    clear c0Q c1Q c2Q
    obtain ⟨nS2, hnS2⟩ : ∃ z, z = QE.length := ⟨_, rfl⟩
    rw [← hnS2] at hrow ⊢
    obtain ⟨xw17, yw17, YS2, hAw, hYw, hCw, t0, t1, t2, ft, bx, hbC⟩ := box_new (r := rq) (s := QS) hrow hnS2
    replace hnS2 := hidI hnS2
    replace st := st.adv hbn0
    replace st := (st.adv hbC).box bx
    clear hbn0 hrow hbC bx
    go_upto_region 22 with (first | rw [hAw.out] | rw [hYw.out] | fail)
    try rw [hYw.out]
    rw [hCw.out]
    clear t0 t1 t2 ft hAw hCw hYw
    have hcc := drawFO_any yw17 a len cap (st.1.2.2.2.2.2.2.2.2.2.2.2.2.2.2.2.2.2.2.2.1)
    go_wp2_with fail
    refine hcc.mono ?_
    rintro e w18 ⟨ri, si, ei, zi, ⟨hPi1, hPi2, hPi3⟩, hzi, aI, cI, vI, rfl, hrow, hir, hbn0⟩
    clear hcc
    have hir9 := hir
    obtain ⟨_, vaI, vcI, rfl, _, _⟩ : ReadI _ _ vI zi := hir9
    obtain ⟨vnI, hvnI⟩ : ∃ z, z = zi.length := ⟨_, rfl⟩
    rw [← hvnI] at hir ⊢
    replace hvnI := hidI hvnI
    unfold ReadE at hrow
    obtain ⟨nI, hnI⟩ : ∃ z, z = ei.length := ⟨_, rfl⟩
    rw [← hnI] at hrow ⊢
    obtain ⟨xw18, yw18, YI, hAw, hYw, hCw, t0, t1, t2, ft, bx, hbC⟩ := box_new (r := ri) (s := si) hrow hnI
    replace hnI := hidI hnI
    replace st := st.adv hbn0
    replace st := st.int hir
    clear hir
    replace st := (st.adv hbC).box bx
    clear hbn0 hrow hbC bx
    go_upto_region 23 with (first | rw [hAw.out] | rw [hYw.out] | fail)
    try rw [hYw.out]
    rw [hCw.out]
    clear t0 t1 t2 ft hAw hCw hYw
    have hjl := foE_length ri si ei zi
    have hjl2 := foL_length ri si ei zi
    have hjin : InF (foL ri si ei zi) := fun f hf => by have := fo_in ri si ei zi f hf; omega
    have hsi : -9223372036854775808 ≤ si ∧ si ≤ 9223372036854775807 := by omega
    obtain ⟨JS, hJS⟩ : ∃ z, z = foS ri si ei zi := ⟨_, rfl⟩
    obtain ⟨JE, hJE⟩ : ∃ z, z = foE ri si ei zi := ⟨_, rfl⟩
    obtain ⟨JL, hJL⟩ : ∃ z, z = foL ri si ei zi := ⟨_, rfl⟩
    rw [← hJE] at hjl
    rw [← hJL] at hjl2 hjin
    obtain ⟨JN, hJN⟩ : ∃ z, z = JL.length := ⟨_, rfl⟩
    obtain ⟨T2, hT2⟩ : ∃ z, z = textF JL := ⟨_, rfl⟩
    rw [← hJN] at hjl2
    have hT2e : (T2.toList == T2.toList) = true := by simp
    replace hJS := hidI hJS
    replace hJE := hidI hJE
    replace hJL := hidI hJL
    replace hJN := hidI hJN
    replace hT2 := hidI hT2
    replace hjin := hidI hjin
    obtain ⟨c0I, c1I, c2I⟩ := (st.1.1).c
    have hcc := progInOrder yw18 ri si (.slice aI nI cI) (.slice vaI vnI vcI) ei zi st.1.1.rd (by omega) (st.1.2.1) (by omega)
    rw [← hJS.out, ← hJE.out, ← hJL.out] at hcc
    go_wp2_with fail
    refine hcc.mono ?_
    rintro e w19 ⟨aJ1, cJ1, vK1, glo, ghi, flo, fhi, rfl, hdj, hrow0, hrl, hbn0⟩
    clear hcc
    have hrow := hrow0.read.mono hdj.2.2.1
    have hrl2 := hrl.read.mono hdj.2.2.2.2.2.1
    obtain ⟨_, _, vaK1, vcK1, rfl, _, _⟩ := hrl2
    replace hrl2 := hrl.read.mono hdj.2.2.2.2.2.1
    clear hrow0 hrl hdj
    rw [← hJN.out] at hrl2 ⊢
    have hrl3 : ReadF w19.heap.size w19 (.slice vaK1 JN vcK1) JL := by have := hrl2; rw [hJN.out] at this ⊢; exact this
    clear hrl2
    clear c0I c1I c2I
    obtain ⟨nJ1, hnJ1⟩ : ∃ z, z = JE.length := ⟨_, rfl⟩
    rw [← hnJ1] at hrow ⊢
    obtain ⟨xw19, yw19, YJ1, hAw, hYw, hCw, t0, t1, t2, ft, bx, hbC⟩ := box_new (r := ri) (s := JS) hrow hnJ1
    replace hnJ1 := hidI hnJ1
    replace st := st.adv hbn0
    replace st := st.fol hrl3
    clear hrl3
    replace st := (st.adv hbC).box bx
    clear hbn0 hrow hbC bx
    go_upto_region 24 with (first | rw [hAw.out] | rw [hYw.out] | fail)
    try rw [hYw.out]
    rw [hCw.out]
    clear t0 t1 t2 ft hAw hCw hYw
    obtain ⟨c0I, c1I, c2I⟩ := (st.1.2.2.1).c
    have hcc := specInOrder yw19 ri si (.slice aI nI cI) (.slice vaI vnI vcI) ei zi st.1.2.2.1.rd hsi (by omega) (st.1.2.2.2.1) (by omega)
    rw [← hJS.out, ← hJE.out, ← hJL.out] at hcc
    go_wp2_with fail
    refine hcc.mono ?_
    rintro e w20 ⟨aJ2, cJ2, vK2, glo, ghi, flo, fhi, rfl, hdj, hrow0, hrl, hbn0⟩
    clear hcc
    have hrow := hrow0.read.mono hdj.2.2.1
    have hrl2 := hrl.read.mono hdj.2.2.2.2.2.1
    obtain ⟨_, _, vaK2, vcK2, rfl, _, _⟩ := hrl2
    replace hrl2 := hrl.read.mono hdj.2.2.2.2.2.1
    clear hrow0 hrl hdj
    rw [← hJN.out] at hrl2 ⊢
    have hrl3 : ReadF w20.heap.size w20 (.slice vaK2 JN vcK2) JL := by have := hrl2; rw [hJN.out] at this ⊢; exact this
    clear hrl2
    clear c0I c1I c2I
    obtain ⟨nJ2, hnJ2⟩ : ∃ z, z = JE.length := ⟨_, rfl⟩
    rw [← hnJ2] at hrow ⊢
    obtain ⟨xw20, yw20, YJ2, hAw, hYw, hCw, t0, t1, t2, ft, bx, hbC⟩ := box_new (r := ri) (s := JS) hrow hnJ2
    replace hnJ2 := hidI hnJ2
    replace st := st.adv hbn0
    replace st := st.fol hrl3
    clear hrl3
    replace st := (st.adv hbC).box bx
    clear hbn0 hrow hbC bx
    go_upto_region 25 with (first | rw [hAw.out] | rw [hYw.out] | fail)
    try rw [hYw.out]
    rw [hCw.out]
    clear t0 t1 t2 ft hAw hCw hYw
    have hfe := fun W => fold_eql W FK FD
    obtain ⟨c0N1, c1N1, c2N1⟩ := (st.1.2.2.2.2.2.2.2.2.2.2.2.2.2.2.2.1).c
    obtain ⟨c0N2, c1N2, c2N2⟩ := (st.1.2.2.2.2.2.2.2.2.2.2.2.2.2.2.1).c
    obtain ⟨c0O1, c1O1, c2O1⟩ := (st.1.2.2.2.2.2.2.2.2.2.2.2.2.1).c
    obtain ⟨c0O2, c1O2, c2O2⟩ := (st.1.2.2.2.2.2.2.2.2.2.2.1).c
    obtain ⟨c0S1, c1S1, c2S1⟩ := (st.1.2.2.2.2.2.2.2.1).c
    obtain ⟨c0S2, c1S2, c2S2⟩ := (st.1.2.2.2.2.2.2.1).c
    obtain ⟨c0J1, c1J1, c2J1⟩ := (st.1.2.2.1).c
    obtain ⟨c0J2, c1J2, c2J2⟩ := (st.1.1).c
    obtain ⟨c0FA, c1FA⟩ := (st.1.2.2.2.2.2.2.2.2.2.2.2.2.2.2.2.2.2.2.2.1).c
    obtain ⟨c0FB1, c1FB1⟩ := (st.1.2.2.2.2.2.2.2.2.2.2.2.2.2.2.2.2.2.2.1).c
    obtain ⟨c0P1, c1P1⟩ := (st.1.2.2.2.2.2.2.2.2.2.2.2.2.2.1).c
    obtain ⟨c0P2, c1P2⟩ := (st.1.2.2.2.2.2.2.2.2.2.2.2.1).c
    have hcc := specEqG yw20 rm MS rm MS (.slice aN1 nN1 cN1) (.slice aN2 nN2 cN2) ME ME st.1.2.2.2.2.2.2.2.2.2.2.2.2.2.2.2.1.rd st.1.2.2.2.2.2.2.2.2.2.2.2.2.2.2.1.rd (by omega) (by omega)
    rw [eqG_me] at hcc
    go_wp2_with (rw [hfe])
    refine hcc.mono ?_
    rintro e w21 ⟨rfl, hbn⟩
    clear hcc
    clear c0N1 c1N1 c2N1 c0N2 c1N2 c2N2 c0O1 c1O1 c2O1 c0O2 c1O2 c2O2 c0S1 c1S1 c2S1 c0S2 c1S2 c2S2 c0J1 c1J1 c2J1 c0J2 c1J2 c2J2
    clear c0FA c1FA c0FB1 c1FB1 c0P1 c1P1 c0P2 c1P2
    replace st := st.adv hbn
    clear hbn
    obtain ⟨c0N1, c1N1, c2N1⟩ := (st.1.2.2.2.2.2.2.2.2.2.2.2.2.2.2.2.1).c
    obtain ⟨c0N2, c1N2, c2N2⟩ := (st.1.2.2.2.2.2.2.2.2.2.2.2.2.2.2.1).c
    obtain ⟨c0O1, c1O1, c2O1⟩ := (st.1.2.2.2.2.2.2.2.2.2.2.2.2.1).c
    obtain ⟨c0O2, c1O2, c2O2⟩ := (st.1.2.2.2.2.2.2.2.2.2.2.1).c
    obtain ⟨c0S1, c1S1, c2S1⟩ := (st.1.2.2.2.2.2.2.2.1).c
    obtain ⟨c0S2, c1S2, c2S2⟩ := (st.1.2.2.2.2.2.2.1).c
    obtain ⟨c0J1, c1J1, c2J1⟩ := (st.1.2.2.1).c
    obtain ⟨c0J2, c1J2, c2J2⟩ := (st.1.1).c
    obtain ⟨c0FA, c1FA⟩ := (st.1.2.2.2.2.2.2.2.2.2.2.2.2.2.2.2.2.2.2.2.1).c
    obtain ⟨c0FB1, c1FB1⟩ := (st.1.2.2.2.2.2.2.2.2.2.2.2.2.2.2.2.2.2.2.1).c
    obtain ⟨c0P1, c1P1⟩ := (st.1.2.2.2.2.2.2.2.2.2.2.2.2.2.1).c
    obtain ⟨c0P2, c1P2⟩ := (st.1.2.2.2.2.2.2.2.2.2.2.2.1).c
    have hcc := specEqG w21 r OS r OS (.slice aO1 nO1 cO1) (.slice aO2 nO2 cO2) OE OE st.1.2.2.2.2.2.2.2.2.2.2.2.2.1.rd st.1.2.2.2.2.2.2.2.2.2.2.1.rd (by omega) (by omega)
    rw [eqG_me] at hcc
    go_wp2_with (rw [hfe])
    refine hcc.mono ?_
    rintro e w22 ⟨rfl, hbn⟩
    clear hcc
    clear c0N1 c1N1 c2N1 c0N2 c1N2 c2N2 c0O1 c1O1 c2O1 c0O2 c1O2 c2O2 c0S1 c1S1 c2S1 c0S2 c1S2 c2S2 c0J1 c1J1 c2J1 c0J2 c1J2 c2J2
    clear c0FA c1FA c0FB1 c1FB1 c0P1 c1P1 c0P2 c1P2
    replace st := st.adv hbn
    clear hbn
    obtain ⟨c0N1, c1N1, c2N1⟩ := (st.1.2.2.2.2.2.2.2.2.2.2.2.2.2.2.2.1).c
    obtain ⟨c0N2, c1N2, c2N2⟩ := (st.1.2.2.2.2.2.2.2.2.2.2.2.2.2.2.1).c
    obtain ⟨c0O1, c1O1, c2O1⟩ := (st.1.2.2.2.2.2.2.2.2.2.2.2.2.1).c
    obtain ⟨c0O2, c1O2, c2O2⟩ := (st.1.2.2.2.2.2.2.2.2.2.2.1).c
    obtain ⟨c0S1, c1S1, c2S1⟩ := (st.1.2.2.2.2.2.2.2.1).c
    obtain ⟨c0S2, c1S2, c2S2⟩ := (st.1.2.2.2.2.2.2.1).c
    obtain ⟨c0J1, c1J1, c2J1⟩ := (st.1.2.2.1).c
    obtain ⟨c0J2, c1J2, c2J2⟩ := (st.1.1).c
    obtain ⟨c0FA, c1FA⟩ := (st.1.2.2.2.2.2.2.2.2.2.2.2.2.2.2.2.2.2.2.2.1).c
    obtain ⟨c0FB1, c1FB1⟩ := (st.1.2.2.2.2.2.2.2.2.2.2.2.2.2.2.2.2.2.2.1).c
    obtain ⟨c0P1, c1P1⟩ := (st.1.2.2.2.2.2.2.2.2.2.2.2.2.2.1).c
    obtain ⟨c0P2, c1P2⟩ := (st.1.2.2.2.2.2.2.2.2.2.2.2.1).c
    have hcc := specEqG w22 rq QS rq QS (.slice aS1 nS1 cS1) (.slice aS2 nS2 cS2) QE QE st.1.2.2.2.2.2.2.2.1.rd st.1.2.2.2.2.2.2.1.rd (by omega) (by omega)
    rw [eqG_me] at hcc
    go_wp2_with (rw [hfe])
    refine hcc.mono ?_
    rintro e w23 ⟨rfl, hbn⟩
    clear hcc
    clear c0N1 c1N1 c2N1 c0N2 c1N2 c2N2 c0O1 c1O1 c2O1 c0O2 c1O2 c2O2 c0S1 c1S1 c2S1 c0S2 c1S2 c2S2 c0J1 c1J1 c2J1 c0J2 c1J2 c2J2
    clear c0FA c1FA c0FB1 c1FB1 c0P1 c1P1 c0P2 c1P2
    replace st := st.adv hbn
    clear hbn
    obtain ⟨c0N1, c1N1, c2N1⟩ := (st.1.2.2.2.2.2.2.2.2.2.2.2.2.2.2.2.1).c
    obtain ⟨c0N2, c1N2, c2N2⟩ := (st.1.2.2.2.2.2.2.2.2.2.2.2.2.2.2.1).c
    obtain ⟨c0O1, c1O1, c2O1⟩ := (st.1.2.2.2.2.2.2.2.2.2.2.2.2.1).c
    obtain ⟨c0O2, c1O2, c2O2⟩ := (st.1.2.2.2.2.2.2.2.2.2.2.1).c
    obtain ⟨c0S1, c1S1, c2S1⟩ := (st.1.2.2.2.2.2.2.2.1).c
    obtain ⟨c0S2, c1S2, c2S2⟩ := (st.1.2.2.2.2.2.2.1).c
    obtain ⟨c0J1, c1J1, c2J1⟩ := (st.1.2.2.1).c
    obtain ⟨c0J2, c1J2, c2J2⟩ := (st.1.1).c
    obtain ⟨c0FA, c1FA⟩ := (st.1.2.2.2.2.2.2.2.2.2.2.2.2.2.2.2.2.2.2.2.1).c
    obtain ⟨c0FB1, c1FB1⟩ := (st.1.2.2.2.2.2.2.2.2.2.2.2.2.2.2.2.2.2.2.1).c
    obtain ⟨c0P1, c1P1⟩ := (st.1.2.2.2.2.2.2.2.2.2.2.2.2.2.1).c
    obtain ⟨c0P2, c1P2⟩ := (st.1.2.2.2.2.2.2.2.2.2.2.2.1).c
    have hcc := specEqG w23 ri JS ri JS (.slice aJ1 nJ1 cJ1) (.slice aJ2 nJ2 cJ2) JE JE st.1.2.2.1.rd st.1.1.rd (by omega) (by omega)
    rw [eqG_me] at hcc
    go_wp2_with (rw [hfe])
    refine hcc.mono ?_
    rintro e w24 ⟨rfl, hbn⟩
    clear hcc
    clear c0N1 c1N1 c2N1 c0N2 c1N2 c2N2 c0O1 c1O1 c2O1 c0O2 c1O2 c2O2 c0S1 c1S1 c2S1 c0S2 c1S2 c2S2 c0J1 c1J1 c2J1 c0J2 c1J2 c2J2
    clear c0FA c1FA c0FB1 c1FB1 c0P1 c1P1 c0P2 c1P2
    replace st := st.adv hbn
    clear hbn
    have hcc := progFmtFs w24 (.slice vaK1 JN vcK1) JL (st.1.2.2.2.1) hjin.out (by have := hJN.out; omega) (htab.out.below st.1.2.2.2.2.2.2.2.2.2.2.2.2.2.2.2.2.2.2.2.2.2.2.2.2.2.2)
    rw [← hT2.out] at hcc
    go_wp2_with (rw [hfe])
    refine hcc.mono ?_
    rintro e w25 ⟨rfl, hbn⟩
    clear hcc
    replace st := st.adv hbn
    clear hbn
    have hcc := specFmtFs w25 (.slice vaK2 JN vcK2) JL (st.1.2.1) hjin.out (by have := hJN.out; omega)
    rw [← hT2.out] at hcc
    go_wp2_with (rw [hfe])
    refine hcc.mono ?_
    rintro e w26 ⟨rfl, hbn⟩
    clear hcc
    replace st := st.adv hbn
    clear hbn
    go_wp2_with (rw [hfe])
    go_ret
    exact ⟨rfl, st.1.2.2.2.2.2.2.2.2.2.2.2.2.2.2.2.2.2.2.2.2.2.2.2.2.2.2⟩
set_option maxRecDepth 100000 in
set_option maxHeartbeats 3200000 in
theorem walk (a0 : Option Addr) (len0 cap0 : Nat) (z0 : List Int) (W : World) (w0 : IsRow .u8 W a0 len0 cap0 z0) (htab : Lib.TabIs Tryz.prog W "internal/strconv.uint64pow10" .u64 Lib.pow10Tab) :
    Calls Tryz.prog 3 #[.slice a0 len0 cap0] W fun e w' => e = .returned (.bool true) ∧ Below W.heap.size W w' := by
  by_cases hbig : 1048576 < len0
  · go_enter Tryz.func3, Tryz.ntmps3
    go_wp2_with fail
    refine (big_yes _ a0 len0 cap0 hbig).mono ?_
    rintro e w1 ⟨rfl, rfl⟩
    go_wp2_with fail
    go_ret
    exact ⟨rfl, Below.refl _ _⟩
  · exact walk0 W a0 len0 cap0 (codeIn_row w0 (by omega)) (row_cap w0) htab

/-! ### The row's step -/
theorem door_met (os : Os) (args : Array Value) : laidMetH Tryz.prog Rows.fnFoldsRow.laid ((World.doorLaid Tryz.prog 24 os).forCall (fun _ _ => 0) ⟨#[], args, []⟩).memory :=
  laidMetH_of_parts3 (fuel := 8) (laidMet_of_run' 8 (by kernel_rfl) (by kernel_rfl)) (by kernel_rfl) (by kernel_rfl)
theorem gPow : Tryz.prog.globalNamed "internal/strconv.uint64pow10" = some 1 := by kernel_rfl
theorem tPow : (Tryz.prog.globals[1]?).map (·.type) = some 170 := by kernel_rfl
theorem of_laid {W : World} (h : laidMetH Tryz.prog Rows.fnFoldsRow.laid W) : Lib.TabIs Tryz.prog W "internal/strconv.uint64pow10" .u64 Lib.pow10Tab := by
  rw [MakeChecks.laidMetH_plain _ _ _ (by kernel_rfl)] at h
  obtain ⟨ps, ⟨_, _, _, _, _, _, _, _, _, _, ⟨_, _, _, _, _, _, _, _, _, _, ⟨g, t, cs, fuel, p, q, hg, ht, hvar, hd, _, _⟩, _⟩, _⟩, _⟩ := h
  obtain rfl := Option.some.inj (gPow.symm.trans hg)
  obtain rfl := Option.some.inj (tPow.symm.trans ht)
  unfold Lib.TabIs
  have hd' : DataW.trod (fun _ => ()) Tryz.prog W 0 (fun _ => true) false fuel 170 cs.toList = some (Lib.tabData .u64 Lib.pow10Tab, p) := hd
  rw [hvar, ← Lib.cells_of_tab Tryz.underlying170 Tryz.underlying153 (by kernel_rfl) (by kernel_rfl) hd']

set_option maxRecDepth 100000 in
theorem lifted (os : Os) (started : os.Started) (H : Type) (enc : TypeId × Value → H) :
    ReturnsInHanded {} Tryz.checked os 3 .any (fun w args => (Rows.fnFoldsSpec.pre enc Tryz.prog Tryz.f3 [] false w args ∧ laidMetH Tryz.prog Rows.fnFoldsRow.laid w) ∧ sizedMet enc Tryz.prog Tryz.f3 (OpenSpec.ofChange Rows.fnFoldsSpec) false w args)
      (Rows.fnFoldsSpec.post enc Tryz.prog Tryz.f3 false true false false) := by
  refine returnsInHanded_of_change_and (C := Tryz.checked) (X := fun w _ => laidMetH Tryz.prog Rows.fnFoldsRow.laid w) (fun _ _ _ hh h => h.of_heap hh) own started (by kernel_rfl) Tryz.func3
    (ChangeSpec.witness_shaped (enc := enc) (C := Tryz.checked) (os := os) (X := fun w _ => laidMetH Tryz.prog Rows.fnFoldsRow.laid w) false (World.doorLaid Tryz.prog 24 os) #[.slice none 0 0] 8 rfl (World.shaped_of_RefB (by kernel_rfl) (by kernel_rfl)) (by kernel_rfl) (by kernel_rfl) (by kernel_rfl) (door_met os _)) ?_
  intro W base args ds gs before hval0 hW _ _ hL _
  have hval : ∀ (j : Nat) t v, Tryz.f3.params[j]? = some t → args[j]? = some v → Value.okWide Tryz.prog W .any base t v := hval0
  have hW' := hW
  obtain ⟨p, q, hA0, hV, rfl, hfz, hnd⟩ := hW
  have hA : DataW.TrodAll enc Tryz.prog W 0 (fun _ => true) true Tryz.f3.params.toList args.toList ds p := hA0
  rw [Tryz.params3] at hA hval
  obtain ⟨v0, vs0, d0, ds0, p0, q0, hargs, rfl, rfl, h0, r0⟩ := trodAll_cons hA
  obtain ⟨rfl, rfl, rfl⟩ := trodAll_nil r0
  obtain rfl : args = #[v0] := by cases args; simp_all
  obtain ⟨rfl, rfl⟩ := trodVars_none hV
  have htab := of_laid hL
  obtain ⟨a0, len0, cap0, rfl⟩ := okWide_slice Tryz.underlying22 (hval 0 22 v0 rfl rfl)
  have k0 := h0
  have lt0 : ∀ x ∈ p0, x.block < W.heap.size := by obtain ⟨m, hm⟩ := k0; exact DataW.trod_lt m _ _ _ hm
  obtain ⟨z0, w0⟩ : ∃ zs, IsRow .u8 W a0 len0 cap0 zs := by
    obtain ⟨fuel, hf⟩ := h0
    rcases open_ints Tryz.underlying22 Tryz.underlying5 (by kernel_rfl) hf with ⟨hcs, _⟩ | ⟨x, l, c, zs, hcs, _, hl, hm, hz, _, hcell, hwz⟩
    · simp [Value.cells] at hcs
      obtain ⟨rfl, rfl, rfl⟩ := hcs
      exact ⟨[], .inl ⟨rfl, rfl, rfl, rfl⟩⟩
    · simp [Value.cells] at hcs
      obtain ⟨rfl, rfl, rfl⟩ := hcs
      exact ⟨zs, .inr ⟨_, rfl, hl, hm, by simpa using hz, hcell, hwz⟩⟩
  clear hA0 hval0
  refine (walk a0 len0 cap0 z0 W w0 htab).mono fun e W' ⟨he, hg⟩ => ?_
  subst he
  exact ⟨_, rfl, _, _, _, [], _, [], hW', trodAll_mk1 (shut_bool Tryz.underlying4 _), (trodAll_cons_mk (Below.trod laidOut (by kernel_rfl) (of_decide_eq_true (by kernel_rfl)) k0 hg lt0) trodAll_mk0), rfl, hg.frame _, fun h => by cases h⟩

theorem over : Rows.FnFoldsSaid :=
  OpenClaim.holds_of_wide 3 Tryz.f3 rfl rfl rfl rfl rfl rfl rfl ⟨rfl, rfl, rfl, rfl, rfl⟩ rfl rfl rfl rfl rfl (by kernel_rfl) Tryz.func3 (by kernel_rfl)
    (of_decide_eq_true (by kernel_rfl)) (by unfold Func.isWrapper; first | (rw [if_pos (by decide +kernel)]; kernel_rfl) | (rw [if_neg (by decide +kernel)]; exact ⟨rfl, rfl⟩))
    (fun os started H enc _ => lifted os started H enc)

theorem proved : Rows.FnFoldsCardSaid :=
  Claim7.holds_tied_plain_at .later [] [.data, .data, .data] true (true, "007ccb16af37b514ef6279bc0748caaa546e009089cf2d5ba3f9edf835bc984e") false
    over (fun _ h => by cases h) (by kernel_rfl) (fun _ h => by cases h) fnFolds_row_tie rfl ⟨rfl, rfl⟩ (by kernel_rfl) rfl
    (fun f fn hf hfn => by
      obtain rfl : f = 3 := Option.some.inj ((show Tryz.prog.funcNamed "loop.example/g02075/laws.FnFolds" = some 3 by kernel_rfl).symm.trans hf) |>.symm
      obtain rfl : fn = Tryz.f3 := (Option.some.inj (Tryz.func3.symm.trans hfn)).symm
      exact ⟨by kernel_rfl, fun j t ht => by
        rw [Tryz.params3] at ht
        have hm : t ∈ [22] := by simpa using Array.mem_of_getElem? ht
        have hall : ([22].all fun u => !Tryz.prog.wantsStandIn u) = true := by kernel_rfl
        exact (show Tryz.prog.wantsStandIn t = false by simpa using List.all_eq_true.1 hall t hm)⟩)
    (by kernel_rfl)
#print axioms proved
end Go.Proofs.YtgngfffmkjckdaaGreatDoor.fnFolds
