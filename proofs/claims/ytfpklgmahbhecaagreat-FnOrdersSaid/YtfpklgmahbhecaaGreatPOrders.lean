import Derived.Test.YtfpklgmahbhecaaGreatRB
import Derived.Test.YtfpklgmahbhecaaGreatDL
import Derived.Test.YtfpklgmahbhecaaGreatTY
import Derived.Test.YtfpklgmahbhecaaGreatUK
import Derived.Test.YtfpklgmahbhecaaGreatYP
import Derived.Test.YtfpklgmahbhecaaGreatTH
import Derived.Test.YtfpklgmahbhecaaGreatBX
import Derived.Test.YtfpklgmahbhecaaGreatRJ
import Derived.WalkKit
import Derived.ProofKit
import Derived.OpenShut
import Derived.ShutString
import Derived.Below
namespace Go.Proofs.YtfpklgmahbhecaaGreat.fnOrders
open Go.ChangeShapes Go.WideShapes Go.ChangeAt Go.RowKit
open Go.ChangeMaps (open_string shut_string)
set_option linter.unusedVariables false
theorem own : ownKnob Tryz.prog.godebug = none := by kernel_rfl
theorem laidOut : laidOutB Tryz.prog = true := by kernel_rfl
set_option maxHeartbeats 51200000 in
set_option maxRecDepth 100000 in
theorem walk0 (w : World) (a : Option Addr) (len cap : Nat) (hcode : CodeIn w.heap.size w a len) (hcap : len ≤ cap) :
 Calls Tryz.prog 3 #[.slice a len cap] w fun e w' => e = .returned (.bool true) ∧ Below w.heap.size w w' := by
 have hlen := hcode.1
 have st := St.beg hcode
 clear hcode
 go_enter Tryz.func3, Tryz.ntmps3
 go_wp2_with fail
 refine (big_no _ a len cap hlen).mono ?_
 rintro e w0 ⟨rfl, rfl⟩
 have hcc := drawFO_any w a len cap st.1.1
 go_wp2_with fail
 refine hcc.mono ?_
 rintro e w1 ⟨r, s, es, zi, ⟨hPr, hPs, hPe⟩, hzi, aI, cI, vI, rfl, hrow, hir, hbn0⟩
 clear hcc
 have hir9 := hir
 obtain ⟨_, vaI, vcI, rfl, _, _⟩ : ReadI _ _ vI zi := hir9
 obtain ⟨vnI, hvnI⟩ := exq zi.length
 rw [← hvnI] at hir ⊢
 replace hvnI := hidI hvnI
 unfold ReadE at hrow
 have hes : es.length ≤ 1048576 := by omega
 have hsb : -9223372036854775808 ≤ s ∧ s ≤ 9223372036854775807 := by omega
 obtain ⟨nI, hnI⟩ := exq es.length
 rw [← hnI] at hrow ⊢
 obtain ⟨xw1, yw1, YI, hAw, hYw, hCw, t0, t1, t2, ft, bx, hbC⟩ := box_new (r := r) (s := s) hrow hnI
 replace hnI := hidI hnI
 replace st := st.adv hbn0
 replace st := st.int hir
 clear hir
 replace st := (st.adv hbC).box bx
 clear hbn0 hrow hbC bx
 go_upto_region 4 with (first | rw [hAw.out] | rw [hYw.out] | fail)
 try rw [hYw.out]
 rw [hCw.out]
 clear t0 t1 t2 ft hAw hCw hYw
 have hord : isGr r s es = true → (foL r s es zi).length = (faL r s es).length ∧ cgS r (foS r s es zi) (foE r s es zi) = cgS r (faS r s es) (faE r s es) ∧ cgE r (foS r s es zi) (foE r s es zi) = cgE r (faS r s es) (faE r s es) ∧ crS r s es = crS r (foS r s es zi) (foE r s es zi) ∧ crE r s es = crE r (foS r s es zi) (foE r s es zi) := fun hg => orders zi hg
 have hgr : conG r s es = true → isGr r s es = true := fun q => by unfold conG at q; rw [Bool.and_eq_true] at q; exact q.1
 have hfin : isGr r s es = true → isGr r (foS r s es zi) (foE r s es zi) = true ∧ isGr r (faS r s es) (faE r s es) = true := fun hg => ⟨(fo_gr (fo_fo zi hg)).1, (fo_gr (fa_folded hg)).1⟩
 obtain ⟨Bc, hBc⟩ := exq (conG r s es)
 rw [← hBc] at hgr
 replace hBc := hidI hBc
 replace hord := hidI hord
 replace hgr := hidI hgr
 replace hfin := hidI hfin
 obtain ⟨c0I, c1I, c2I⟩ := (st.1.1).c
 have hcc := specCon yw1 r s (.slice aI nI cI) es st.1.1.rd hsb (by omega)
 rw [← hBc.out] at hcc
 go_wp2_with fail
 refine hcc.mono ?_
 rintro e w2 ⟨rfl, hbn⟩
 clear hcc
 clear c0I c1I c2I
 replace st := st.adv hbn
 clear hbn
 cases Bc with
 | false =>
  replace hBc := hidI hBc
  go_wp2
  go_ret
  exact ⟨rfl, st.1.2.2.2⟩
 | true =>
  replace hBc := hidI hBc
  have hg := hgr.out rfl
  obtain ⟨o1, o2, o3, o4, o5⟩ := hord.out hg
  obtain ⟨q1, q2⟩ := hfin.out hg
  have hjlim := isGr_lim q1
  have hflim := isGr_lim q2
  clear q1 q2
  replace hg := hidI hg
  have hcel := crE_length r s es
  have hgel := cgE_length r (faS r s es) (faE r s es)
  obtain ⟨JS, hJS⟩ := exq (foS r s es zi)
  obtain ⟨JE, hJE⟩ := exq (foE r s es zi)
  obtain ⟨FS, hFS⟩ := exq (faS r s es)
  obtain ⟨FE, hFE⟩ := exq (faE r s es)
  obtain ⟨JL, hJL⟩ := exq (foL r s es zi)
  obtain ⟨FL, hFL⟩ := exq (faL r s es)
  obtain ⟨CS, hCS⟩ := exq (crS r s es)
  obtain ⟨CE, hCE⟩ := exq (crE r s es)
  rw [← hJS, ← hJE, ← hFS, ← hFE] at o2 o3
  rw [← hCS, ← hJS, ← hJE] at o4
  rw [← hCE, ← hJS, ← hJE] at o5
  rw [← hJL, ← hFL] at o1
  rw [← hJS, ← hJE] at hjlim
  rw [← hFS, ← hFE] at hflim
  rw [← hFS, ← hFE] at hgel
  rw [← hCE] at hcel
  obtain ⟨KS, hKS⟩ := exq (cgS r FS FE)
  obtain ⟨KE, hKE⟩ := exq (cgE r FS FE)
  rw [← hKS] at o2
  rw [← hKE] at o3 hgel
  obtain ⟨JN, hJN⟩ := exq JL.length
  have hFN : JN = FL.length := hJN.trans o1
  have hJJ : ((JN : Int) == (JN : Int)) = true := by simp
  have hself : ∀ (r s : Int) (es : List Ed), eqG r s es r s es = true := fun r s es => by unfold eqG; simp
  replace hJS := hidI hJS
  replace hJE := hidI hJE
  replace hFS := hidI hFS
  replace hFE := hidI hFE
  replace hJL := hidI hJL
  replace hFL := hidI hFL
  replace hCS := hidI hCS
  replace hCE := hidI hCE
  replace hKS := hidI hKS
  replace hKE := hidI hKE
  replace hJN := hidI hJN
  replace hFN := hidI hFN
  replace o1 := hidI o1
  replace o2 := hidI o2
  replace o3 := hidI o3
  replace o4 := hidI o4
  replace o5 := hidI o5
  replace hself := hidI hself
  obtain ⟨c0I, c1I, c2I⟩ := (st.1.1).c
  have hcc := progInOrder w2 r s (.slice aI nI cI) (.slice vaI vnI vcI) es zi st.1.1.rd (by omega) (st.1.2.1) (by omega)
  rw [← hJS.out, ← hJE.out, ← hJL.out] at hcc
  go_wp2_with fail
  refine hcc.mono ?_
  rintro e w3 ⟨aX, cX, vlX, glo, ghi, flo, fhi, rfl, hdj, hrow0, hrl, hbn0⟩
  clear hcc
  have hrow := hrow0.read.mono hdj.2.2.1
  have hrl2 := hrl.read
  obtain ⟨_, _, vfX, vgX, rfl, _, _⟩ := hrl2
  rw [← hJN.out]
  clear hrow0 hrl hdj
  clear c0I c1I c2I
  obtain ⟨nX, hnX⟩ := exq JE.length
  rw [← hnX] at hrow ⊢
  obtain ⟨xw3, yw3, YX, hAw, hYw, hCw, t0, t1, t2, ft, bx, hbC⟩ := box_new (r := r) (s := JS) hrow hnX
  replace hnX := hidI hnX
  replace st := st.adv hbn0
  replace st := (st.adv hbC).box bx
  clear hbn0 hrow hbC bx
  go_upto_region 7 with (first | rw [hAw.out] | rw [hYw.out] | fail)
  try rw [hYw.out]
  rw [hCw.out]
  clear t0 t1 t2 ft hAw hCw hYw
  obtain ⟨c0I, c1I, c2I⟩ := (st.1.2.1).c
  have hcc := progAll yw3 r s (.slice aI nI cI) es st.1.2.1.rd (by omega)
  rw [← hFS.out, ← hFE.out, ← hFL.out] at hcc
  go_wp2_with fail
  refine hcc.mono ?_
  rintro e w4 ⟨aY, cY, vlY, glo, ghi, flo, fhi, rfl, hdj, hrow0, hrl, hbn0⟩
  clear hcc
  have hrow := hrow0.read.mono hdj.2.2.1
  have hrl2 := hrl.read
  obtain ⟨_, _, vfY, vgY, rfl, _, _⟩ := hrl2
  rw [← hFN.out]
  clear hrow0 hrl hdj
  clear c0I c1I c2I
  obtain ⟨nY, hnY⟩ := exq FE.length
  rw [← hnY] at hrow ⊢
  obtain ⟨xw4, yw4, YY, hAw, hYw, hCw, t0, t1, t2, ft, bx, hbC⟩ := box_new (r := r) (s := FS) hrow hnY
  replace hnY := hidI hnY
  replace st := st.adv hbn0
  replace st := (st.adv hbC).box bx
  clear hbn0 hrow hbC bx
  go_upto_region 8 with (first | rw [hAw.out] | rw [hYw.out] | fail)
  try rw [hYw.out]
  rw [hCw.out]
  clear t0 t1 t2 ft hAw hCw hYw
  obtain ⟨c0I, c1I, c2I⟩ := (st.1.2.2.1).c
  have hcc := specAll yw4 r s (.slice aI nI cI) es st.1.2.2.1.rd hsb (by omega)
  rw [← hFS.out, ← hFE.out, ← hFL.out] at hcc
  go_wp2_with fail
  refine hcc.mono ?_
  rintro e w5 ⟨aZ, cZ, vlZ, glo, ghi, flo, fhi, rfl, hdj, hrow0, hrl, hbn0⟩
  clear hcc
  have hrow := hrow0.read.mono hdj.2.2.1
  have hrl2 := hrl.read
  obtain ⟨_, _, vfZ, vgZ, rfl, _, _⟩ := hrl2
  rw [← hFN.out]
  clear hrow0 hrl hdj
  clear c0I c1I c2I
  obtain ⟨nZ, hnZ⟩ := exq FE.length
  rw [← hnZ] at hrow ⊢
  obtain ⟨xw5, yw5, YZ, hAw, hYw, hCw, t0, t1, t2, ft, bx, hbC⟩ := box_new (r := r) (s := FS) hrow hnZ
  replace hnZ := hidI hnZ
  replace st := st.adv hbn0
  replace st := (st.adv hbC).box bx
  clear hbn0 hrow hbC bx
  go_upto_region 9 with (first | rw [hAw.out] | rw [hYw.out] | fail)
  try rw [hYw.out]
  rw [hCw.out]
  clear t0 t1 t2 ft hAw hCw hYw
  obtain ⟨c0Y, c1Y, c2Y⟩ := (st.1.2.1).c
  obtain ⟨c0Z, c1Z, c2Z⟩ := (st.1.1).c
  have hcc := specEqG yw5 r FS r FS (.slice aY nY cY) (.slice aZ nZ cZ) FE FE st.1.2.1.rd st.1.1.rd (by omega) (by omega)
  rw [hself.out] at hcc
  go_wp2_with fail
  refine hcc.mono ?_
  rintro e w6 ⟨rfl, hbn⟩
  clear hcc
  clear c0Y c1Y c2Y c0Z c1Z c2Z
  replace st := st.adv hbn
  clear hbn
  go_upto_region 11 with fail
  obtain ⟨we, hwe⟩ := exq w6.drew
  have hbn : Below w6.heap.size w6 we := by rw [hwe]; exact below_dn (Below.refl _ _) 1
  have hwew := hidI hwe.symm
  replace hwe := hidI hwe
  replace st := st.adv hbn
  clear hbn
  obtain ⟨c0X, c1X, c2X⟩ := (st.1.2.2.1).c
  obtain ⟨c0Y, c1Y, c2Y⟩ := (st.1.2.1).c
  obtain ⟨c0I, c1I, c2I⟩ := (st.1.2.2.2.1).c
  refine hideQ (fun _ _ d _ _ h => by cases d <;> exact h) (fun Q' hnorm hpan => ?_)
  refine wp_region_held_drew (S := (fun W0 => W0.cell? ⟨YX, 0, none⟩ = some (.int .i64 r) ∧ W0.cell? ⟨YX, 1, none⟩ = some (.int .i64 JS) ∧ W0.cell? ⟨YX, 2, none⟩ = some (.slice aX nX cX) ∧ W0.cell? ⟨YY, 0, none⟩ = some (.int .i64 r) ∧ W0.cell? ⟨YY, 1, none⟩ = some (.int .i64 FS) ∧ W0.cell? ⟨YY, 2, none⟩ = some (.slice aY nY cY) ∧ W0.cell? ⟨YI, 0, none⟩ = some (.int .i64 r) ∧ W0.cell? ⟨YI, 1, none⟩ = some (.int .i64 s) ∧ W0.cell? ⟨YI, 2, none⟩ = some (.slice aI nI cI))) (by kernel_rfl) ?_ (fun hHeld => ?_)
  · try dsimp only
    (try rw [hwew.out]); ((repeat' apply And.intro) <;> with_reducible assumption)
  rw [hwew.out] at hHeld ⊢
  refine tk 0 41 ?_
  refine tk 1 42 ?_
  refine tk 2 43 ?_
  refine tk 3 44 ?_
  refine tk 4 45 ?_
  try rw [hJJ]
  refine tk 5 46 ?_
  refine tg 6 47 ?_
  refine tg 8 49 ?_
  refine rd 7 (fun K hK => ?_)
  rw [if_pos (by kernel_rfl)]
  go_simp
  have hcc := progCanG we r JS (.slice aX nX cX) JE st.1.2.2.1.rd (by omega)
  rw [o2.out, o3.out] at hcc
  refine hcc.mono ?_
  rintro e w8 ⟨aH, cH, rfl, hrow0, hbn⟩
  have hrH := hidI hrow0.read
  clear hrow0
  clear hcc
  clear c0X c1X c2X c0Y c1Y c2Y c0I c1I c2I
  replace st := st.adv hbn
  clear hbn
  obtain ⟨c0X, c1X, c2X⟩ := (st.1.2.2.1).c
  obtain ⟨c0Y, c1Y, c2Y⟩ := (st.1.2.1).c
  obtain ⟨c0I, c1I, c2I⟩ := (st.1.2.2.2.1).c
  refine hK.out _ _ ?_ (fun hHeld => ?_)
  · try dsimp only
    (try rw [hwew.out]); ((repeat' apply And.intro) <;> with_reducible assumption)
  clear hK
  try simp only [Act.put, lyA, lyB, lyC]
  refine rd 9 (fun K hK => ?_)
  rw [if_pos (by kernel_rfl)]
  go_simp
  have hcc := specCanG w8 r FS (.slice aY nY cY) FE st.1.2.1.rd (by omega) (by omega)
  rw [← hKS.out, ← hKE.out] at hcc
  refine hcc.mono ?_
  rintro e w9 ⟨aL, cL, rfl, hrow0, hbn⟩
  have hrL := hidI hrow0.read
  replace hrH := hidI ((hrH.out.below hbn).mono hbn.size)
  clear hrow0
  clear hcc
  clear c0X c1X c2X c0Y c1Y c2Y c0I c1I c2I
  replace st := st.adv hbn
  clear hbn
  obtain ⟨c0X, c1X, c2X⟩ := (st.1.2.2.1).c
  obtain ⟨c0Y, c1Y, c2Y⟩ := (st.1.2.1).c
  obtain ⟨c0I, c1I, c2I⟩ := (st.1.2.2.2.1).c
  refine hK.out _ _ ?_ (fun hHeld => ?_)
  · try dsimp only
    (try rw [hwew.out]); ((repeat' apply And.intro) <;> with_reducible assumption)
  clear hK
  try simp only [Act.put, lyA, lyB, lyC]
  refine rd 10 (fun K hK => ?_)
  rw [if_pos (by kernel_rfl)]
  go_simp
  have hcc := specEqG w9 r KS r KS (.slice aH KE.length cH) (.slice aL KE.length cL) KE KE hrH.out hrL.out (by omega) (by omega)
  rw [hself.out] at hcc
  refine hcc.mono ?_
  rintro e w10 ⟨rfl, hbn⟩
  clear hcc
  clear c0X c1X c2X c0Y c1Y c2Y c0I c1I c2I
  replace st := st.adv hbn
  clear hbn
  obtain ⟨c0X, c1X, c2X⟩ := (st.1.2.2.1).c
  obtain ⟨c0Y, c1Y, c2Y⟩ := (st.1.2.1).c
  obtain ⟨c0I, c1I, c2I⟩ := (st.1.2.2.2.1).c
  refine hK.out _ _ ?_ (fun hHeld => ?_)
  · try dsimp only
    (try rw [hwew.out]); ((repeat' apply And.intro) <;> with_reducible assumption)
  clear hK
  try simp only [Act.put, lyA, lyB, lyC]
  refine tg 11 52 ?_
  refine tg 12 53 ?_
  refine tg 13 54 ?_
  refine tg 15 56 ?_
  refine rd 14 (fun K hK => ?_)
  rw [if_pos (by kernel_rfl)]
  go_simp
  have hcc := progCoreG w10 r s (.slice aI nI cI) es st.1.2.2.2.1.rd hsb hes
  rw [← hCS.out, ← hCE.out] at hcc
  refine hcc.mono ?_
  rintro e w11 ⟨aM, cM, rfl, hrow0, hbn⟩
  have hrM := hidI hrow0.read
  clear hrow0
  clear hcc
  clear c0X c1X c2X c0Y c1Y c2Y c0I c1I c2I
  replace st := st.adv hbn
  clear hbn
  obtain ⟨c0X, c1X, c2X⟩ := (st.1.2.2.1).c
  obtain ⟨c0Y, c1Y, c2Y⟩ := (st.1.2.1).c
  obtain ⟨c0I, c1I, c2I⟩ := (st.1.2.2.2.1).c
  refine hK.out _ _ ?_ (fun hHeld => ?_)
  · try dsimp only
    (try rw [hwew.out]); ((repeat' apply And.intro) <;> with_reducible assumption)
  clear hK
  try simp only [Act.put, lyA, lyB, lyC]
  refine rd 16 (fun K hK => ?_)
  rw [if_pos (by kernel_rfl)]
  go_simp
  have hcc := specCoreG w11 r JS (.slice aX nX cX) JE st.1.2.2.1.rd (by omega) (by omega)
  rw [← o4.out, ← o5.out] at hcc
  refine hcc.mono ?_
  rintro e w12 ⟨aN, cN, rfl, hrow0, hbn⟩
  have hrN := hidI hrow0.read
  replace hrM := hidI ((hrM.out.below hbn).mono hbn.size)
  clear hrow0
  clear hcc
  clear c0X c1X c2X c0Y c1Y c2Y c0I c1I c2I
  replace st := st.adv hbn
  clear hbn
  obtain ⟨c0X, c1X, c2X⟩ := (st.1.2.2.1).c
  obtain ⟨c0Y, c1Y, c2Y⟩ := (st.1.2.1).c
  obtain ⟨c0I, c1I, c2I⟩ := (st.1.2.2.2.1).c
  refine hK.out _ _ ?_ (fun hHeld => ?_)
  · try dsimp only
    (try rw [hwew.out]); ((repeat' apply And.intro) <;> with_reducible assumption)
  clear hK
  try simp only [Act.put, lyA, lyB, lyC]
  refine rd 17 (fun K hK => ?_)
  rw [if_pos (by kernel_rfl)]
  go_simp
  have hcc := specEqG w12 r CS r CS (.slice aM CE.length cM) (.slice aN CE.length cN) CE CE hrM.out hrN.out (by omega) (by omega)
  rw [hself.out] at hcc
  refine hcc.mono ?_
  rintro e w13 ⟨rfl, hbn⟩
  clear hcc
  clear c0X c1X c2X c0Y c1Y c2Y c0I c1I c2I
  replace st := st.adv hbn
  clear hbn
  obtain ⟨c0X, c1X, c2X⟩ := (st.1.2.2.1).c
  obtain ⟨c0Y, c1Y, c2Y⟩ := (st.1.2.1).c
  obtain ⟨c0I, c1I, c2I⟩ := (st.1.2.2.2.1).c
  refine hK.out _ _ ?_ (fun hHeld => ?_)
  · try dsimp only
    (try rw [hwew.out]); ((repeat' apply And.intro) <;> with_reducible assumption)
  clear hK
  try simp only [Act.put, lyA, lyB, lyC]
  refine tk 18 59 ?_
  refine tk 19 2 ?_
  refine wpAnyH_done (by kernel_rfl) ?_ _
  refine hnorm _ _ ?_
  clear hnorm hpan
  repeat clear hHeld
  try simp only [Exit.then]
  go_wp2_with fail
  go_ret
  exact ⟨rfl, st.1.2.2.2.2.2.2⟩
set_option maxRecDepth 100000 in
set_option maxHeartbeats 3200000 in
theorem walk (W : World) (a0 : Option Addr) (len0 cap0 : Nat) (z0 : List Int) (w0 : IsRow .u8 W a0 len0 cap0 z0) :
 Calls Tryz.prog 3 #[.slice a0 len0 cap0] W fun e w' => e = .returned (.bool true) ∧ Below W.heap.size W w' := by
 by_cases hbig : 1048576 < len0
 · go_enter Tryz.func3, Tryz.ntmps3
   go_wp2_with fail
   refine (big_yes _ a0 len0 cap0 hbig).mono ?_
   rintro e w1 ⟨rfl, rfl⟩
   go_wp2_with fail
   go_ret
   exact ⟨rfl, Below.refl _ _⟩
 · exact walk0 W a0 len0 cap0 (codeIn_row w0 (by omega)) (row_cap w0)
set_option maxRecDepth 100000 in
theorem lifted (os : Os) (started : os.Started) (H : Type) (enc : TypeId × Value → H) :
 ReturnsInHanded {} Tryz.checked os 3 .any (Rows.fnOrdersSpec.pre6 enc Tryz.prog Tryz.f3 Rows.fnOrdersRow.domain false) (Rows.fnOrdersSpec.post enc Tryz.prog Tryz.f3 false true false false) := by
 refine returnsInHanded_of_change (C := Tryz.checked) own started (by kernel_rfl) Tryz.func3
  (ChangeSpec.witness6 (enc := enc) (C := Tryz.checked) false ⟨#[], #[.slice none 0 0], []⟩ 8 (by kernel_rfl) (by kernel_rfl) (by kernel_rfl) (by kernel_rfl)) ?_
 intro W base args ds gs before hval0 hW hcnd _
 have hval : ∀ (j : Nat) t v, Tryz.f3.params[j]? = some t → args[j]? = some v → Value.okWide Tryz.prog W .any base t v := hval0
 have hW' := hW
 obtain ⟨p, q, hA0, hV, rfl, hfz, hnd⟩ := hW
 have hA : DataW.TrodAll enc Tryz.prog W 0 (fun _ => true) true Tryz.f3.params.toList args.toList ds p := hA0
 rw [Tryz.params3] at hA hval
 obtain ⟨v0, vs0, d0, ds0, p0, q0, hargs, rfl, rfl, h0, r0⟩ := trodAll_cons hA
 obtain ⟨rfl, rfl, rfl⟩ := trodAll_nil r0
 obtain rfl : args = #[v0] := by cases args; simp_all
 obtain ⟨rfl, rfl⟩ := trodVars_none hV
 obtain ⟨a0, len0, cap0, rfl⟩ := okWide_slice Tryz.underlying22 (hval 0 22 v0 rfl rfl)
 have k0 := h0
 have lt0 : ∀ x ∈ p0, x.block < W.heap.size := by obtain ⟨m, hm⟩ := k0; exact DataW.trod_lt m _ _ _ hm
 obtain ⟨z0, w0⟩ : ∃ zs, IsRow .u8 W a0 len0 cap0 zs := by
  obtain ⟨fuel, hf⟩ := h0
  rcases open_ints Tryz.underlying22 Tryz.underlying5 (by kernel_rfl) hf with ⟨hcs, _⟩ | ⟨x, l, c, zs, hcs, _, hl, hm, hz, _, hcell, hwz⟩
  · simp [Value.cells] at hcs
    obtain ⟨rfl, rfl, rfl⟩ := hcs
    exact ⟨[], .inl ⟨rfl, rfl, rfl, rfl⟩⟩
  · simp [Value.cells] at hcs
    obtain ⟨rfl, rfl, rfl⟩ := hcs
    exact ⟨zs, .inr ⟨_, rfl, hl, hm, by simpa using hz, hcell, hwz⟩⟩
 clear hA0 hval0
 refine (walk W a0 len0 cap0 z0 w0).mono fun e W' ⟨he, hg⟩ => ?_
 subst he
 exact ⟨_, rfl, _, _, _, [], _, [], hW', trodAll_mk1 (shut_bool Tryz.underlying4 _), (trodAll_cons_mk (Below.trod laidOut (by kernel_rfl) (of_decide_eq_true (by kernel_rfl)) k0 hg lt0) trodAll_mk0), rfl, hg.frame _, fun h => by cases h⟩
theorem over : Rows.fnOrdersRow.holds Tryz.pinned (OpenSpec.ofChange Rows.fnOrdersSpec) :=
 OpenClaim.holds_of_wide 3 Tryz.f3 rfl rfl rfl rfl rfl rfl rfl ⟨rfl, rfl, rfl, rfl, rfl⟩ rfl rfl rfl rfl rfl (by kernel_rfl) Tryz.func3 (by kernel_rfl)
  (of_decide_eq_true (by kernel_rfl)) (by unfold Func.isWrapper; first | (rw [if_pos (by decide +kernel)]; kernel_rfl) | (rw [if_neg (by decide +kernel)]; exact ⟨rfl, rfl⟩))
  (fun os started H enc _ => lifted os started H enc)
theorem proved : Rows.FnOrdersSaid := over
#print axioms proved
end Go.Proofs.YtfpklgmahbhecaaGreat.fnOrders
