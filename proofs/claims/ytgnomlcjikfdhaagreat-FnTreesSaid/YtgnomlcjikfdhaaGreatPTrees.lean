/- For every slice of bytes, laws.FnTrees returns true and leaves its argument as it is: trees of drawn graphs, their words, the edges outside them and the loops that these make. Conditions: none beyond the row's. -/
import Derived.WalkKit
import Derived.ProofKit
import Derived.OpenShut
import Derived.ShutString
import Derived.Below
import Derived.Test.YtgnomlcjikfdhaaGreatJ2Tr
import Derived.Test.YtgnomlcjikfdhaaGreatJ23Tr
import Derived.Test.YtgnomlcjikfdhaaGreatJ24Tr
import Derived.Test.YtgnomlcjikfdhaaGreatJ31Tr
import Derived.Test.YtgnomlcjikfdhaaGreatJ32Tr
import Derived.Test.YtgnomlcjikfdhaaGreatJ33Tr
import Derived.Test.YtgnomlcjikfdhaaGreatJ35Tr
import Derived.Test.YtgnomlcjikfdhaaGreatJ36Tr
import Derived.Test.YtgnomlcjikfdhaaGreatJ40Tr
import Derived.Test.YtgnomlcjikfdhaaGreatJ44Tr
import Derived.Test.YtgnomlcjikfdhaaGreatJ28Tr
import Derived.Test.YtgnomlcjikfdhaaGreatJ0Tr
namespace Go.Proofs.YtgnomlcjikfdhaaGreat.fnTrees
open Go.ChangeShapes Go.WideShapes Go.ChangeAt Go.RowKit
open Go.ChangeMaps (open_string shut_string)
set_option linter.unusedVariables false
theorem own : ownKnob Tryz.prog.godebug = none := by kernel_rfl
theorem laidOut : laidOutB Tryz.prog = true := by kernel_rfl
set_option maxHeartbeats 51200000 in
set_option maxRecDepth 100000 in
theorem walk0 (w : World) (a : Option Addr) (len cap : Nat) (hcode : CodeIn w.heap.size w a len) (hcap : len ≤ cap) :
 Calls Tryz.prog 3 #[.slice a len cap] w fun e w' => e = .returned (.bool true) ∧ Below w.heap.size w w' := by
 have hlen := hcode.1
 have st := St.beg hcode
 clear hcode
 go_enter Tryz.func3, Tryz.ntmps3
 go_wp2_with fail
 refine (big_no _ a len cap hlen).mono ?_
 rintro e w0 ⟨rfl, rfl⟩
 have hcc := drawTE_any w a len cap st.1.1
 go_wp2_with fail
 refine hcc.mono ?_
 rintro e w1 ⟨r, s, es, hP, aG, cG, rfl, hrow0, hbn0⟩
 clear hcc
 have hrow := hrow0.read
 clear hrow0
 obtain ⟨hPr, hPs, hPe⟩ := hP
 have hes : es.length ≤ 1048576 := by omega
 have hsb : -9223372036854775808 ≤ s ∧ s ≤ 9223372036854775807 := by omega
 obtain ⟨nG, hnG⟩ := exq es.length
 rw [← hnG] at hrow ⊢
 obtain ⟨xw1, yw1, YG, hAw, hYw, hCw, t0, t1, t2, ft, bx, hbC⟩ := box_new (r := r) (s := s) hrow hnG
 replace hnG := hidI hnG
 replace st := st.adv hbn0
 replace st := (st.adv hbC).box bx
 clear hbn0 hrow hbC bx
 go_upto_region 4 with (first | rw [hAw.out] | rw [hYw.out] | fail)
 try rw [hYw.out]
 rw [hCw.out]
 clear t0 t1 t2 ft hAw hCw hYw
 have htl := trE_length r s es
 have hxl := exE_length r s es
 have hcnt : isFo r s es = true → conG r s es = true → ((trE r s es).length : Int) = s - 1 ∧ (trE r s es).length + (exE r s es).length = es.length := fun q1 q2 => tree_count q1 q2
 obtain ⟨TT, hTT⟩ := exq (trE r s es)
 obtain ⟨XX, hXX⟩ := exq (exE r s es)
 obtain ⟨Fo, hFo⟩ := exq (isFo r s es)
 obtain ⟨Co, hCo⟩ := exq (conG r s es)
 rw [← hTT] at htl hcnt
 rw [← hXX] at hxl hcnt
 rw [← hFo, ← hCo] at hcnt
 obtain ⟨nT, hnT⟩ := exq TT.length
 obtain ⟨nX, hnX⟩ := exq XX.length
 rw [← hnT, ← hnX] at hcnt
 rw [← hnT] at htl
 rw [← hnX] at hxl
 rw [← hnG.out] at hcnt
 replace hTT := hidI hTT
 replace hXX := hidI hXX
 replace hFo := hidI hFo
 replace hCo := hidI hCo
 replace hnT := hidI hnT
 replace hnX := hidI hnX
 replace hcnt := hidI hcnt
 obtain ⟨c0G, c1G, c2G⟩ := (st.1.1).c
 have hcc := progTreeE yw1 r s (.slice aG nG cG) es st.1.1.rd (by omega)
 rw [← hTT.out] at hcc
 go_wp2_with fail
 refine hcc.mono ?_
 rintro e w2 ⟨at1, ct1, rfl, hrow0, hbn⟩
 clear hcc
 rw [← hnT.out] at hrow0 ⊢
 have hrt1 : ReadE w2.heap.size w2 (.slice at1 nT ct1) TT := by have q := hrow0.read; rw [hnT.out] at q ⊢; exact q
 clear hrow0
 clear c0G c1G c2G
 replace st := (st.adv hbn).edg hrt1
 clear hbn hrt1
 obtain ⟨c0G, c1G, c2G⟩ := (st.1.2.1).c
 have hcc := progExtra w2 r s (.slice aG nG cG) es st.1.2.1.rd (by omega)
 rw [← hXX.out] at hcc
 go_wp2_with fail
 refine hcc.mono ?_
 rintro e w3 ⟨ax1, cx1, rfl, hrow0, hbn⟩
 clear hcc
 rw [← hnX.out] at hrow0 ⊢
 have hrx1 : ReadE w3.heap.size w3 (.slice ax1 nX cx1) XX := by have q := hrow0.read; rw [hnX.out] at q ⊢; exact q
 clear hrow0
 clear c0G c1G c2G
 replace st := (st.adv hbn).edg hrx1
 clear hbn hrx1
 obtain ⟨c0G, c1G, c2G⟩ := (st.1.2.2.1).c
 have hcc := specTreeE w3 r s (.slice aG nG cG) es st.1.2.2.1.rd hsb (by omega)
 rw [← hTT.out] at hcc
 go_wp2_with fail
 refine hcc.mono ?_
 rintro e w4 ⟨at2, ct2, rfl, hrow0, hbn⟩
 clear hcc
 rw [← hnT.out] at hrow0 ⊢
 have hrt2 : ReadE w4.heap.size w4 (.slice at2 nT ct2) TT := by have q := hrow0.read; rw [hnT.out] at q ⊢; exact q
 clear hrow0
 clear c0G c1G c2G
 replace st := (st.adv hbn).edg hrt2
 clear hbn hrt2
 obtain ⟨c0G, c1G, c2G⟩ := (st.1.2.2.2.1).c
 have hcc := sameEdges_law w4 (.slice at1 nT ct1) (.slice at2 nT ct2) TT (st.1.2.2.1) (st.1.1) (by have := hnT.out; omega)
 go_wp2_with fail
 refine hcc.mono ?_
 rintro e w5 ⟨rfl, hbn⟩
 clear hcc
 clear c0G c1G c2G
 replace st := st.adv hbn
 clear hbn
 obtain ⟨c0G, c1G, c2G⟩ := (st.1.2.2.2.1).c
 have hcc := specExtra w5 r s (.slice aG nG cG) es st.1.2.2.2.1.rd hsb (by omega)
 rw [← hXX.out] at hcc
 go_wp2_with fail
 refine hcc.mono ?_
 rintro e w6 ⟨ax2, cx2, rfl, hrow0, hbn⟩
 clear hcc
 rw [← hnX.out] at hrow0 ⊢
 have hrx2 : ReadE w6.heap.size w6 (.slice ax2 nX cx2) XX := by have q := hrow0.read; rw [hnX.out] at q ⊢; exact q
 clear hrow0
 clear c0G c1G c2G
 replace st := (st.adv hbn).edg hrx2
 clear hbn hrx2
 obtain ⟨c0G, c1G, c2G⟩ := (st.1.2.2.2.2.1).c
 have hcc := sameEdges_law w6 (.slice ax1 nX cx1) (.slice ax2 nX cx2) XX (st.1.2.2.1) (st.1.1) (by have := hnX.out; omega)
 go_wp2_with fail
 refine hcc.mono ?_
 rintro e w7 ⟨rfl, hbn⟩
 clear hcc
 clear c0G c1G c2G
 replace st := st.adv hbn
 clear hbn
 obtain ⟨c0G, c1G, c2G⟩ := (st.1.2.2.2.2.1).c
 have hcc := specFold w7 r s (.slice aG nG cG) es st.1.2.2.2.2.1.rd hsb (by omega)
 rw [← hFo.out] at hcc
 go_wp2_with fail
 refine hcc.mono ?_
 rintro e w8 ⟨rfl, hbn⟩
 clear hcc
 clear c0G c1G c2G
 replace st := st.adv hbn
 clear hbn
 obtain ⟨c0G, c1G, c2G⟩ := (st.1.2.2.2.2.1).c
 cases Fo with
 | true =>
  have hcc := specCon w8 r s (.slice aG nG cG) es st.1.2.2.2.2.1.rd hsb (by omega)
  rw [← hCo.out] at hcc
  go_wp2_with fail
  refine hcc.mono ?_
  rintro e w9 ⟨rfl, hbn⟩
  clear hcc
  clear c0G c1G c2G
  replace st := st.adv hbn
  clear hbn
  obtain ⟨c0G, c1G, c2G⟩ := (st.1.2.2.2.2.1).c
  cases Co with
  | true =>
   obtain ⟨hc1, hc2⟩ := (by first | exact hcnt.out rfl rfl | exact hcnt.out trivial rfl | exact hcnt.out trivial trivial | exact hcnt.out : (nT : Int) = s - 1 ∧ nT + nX = nG)
   have hcnt' : Hid True := hidI trivial
   have hw1 : IntKind.i64.wrap (s - 1) = s - 1 := IntWalk.i64_in _ (by omega)
   have hb1 : ((nT : Int) != s - 1) = false := by rw [bne_eq_false_iff_eq]; exact hc1
   have hw2 : IntKind.i64.wrap ((nT : Int) + (nX : Int)) = (nG : Int) := by rw [IntWalk.i64_in _ (by omega)]; omega
   have hb2 : ((nG : Int) != (nG : Int)) = false := by simp
   have hw3 : (nT : Int) + (nX : Int) = (nG : Int) := by omega
   have hb3 : ((nT : Int) + (nX : Int) != (nG : Int)) = false := by rw [hw3]; simp
   replace hc1 := hidI hc1
   replace hc2 := hidI hc2
   replace hw3 := hidI hw3
   replace hFo := hidI hFo.out
   replace hCo := hidI hCo.out
   replace hcnt := hidI hcnt'
   go_upto_region 10 with fail
   clear c0G c1G c2G
   clear hw1 hb1 hw2 hb2 hb3
   have hcc := drawTW_any w9 a len cap (st.1.2.2.2.2.2.1)
   go_wp2_with fail
   refine hcc.mono ?_
   rintro e w10 ⟨rh, sh, eh, aH, cH, vh, ⟨hQr, hQs, hQe⟩, hvh, rfl, hrow0, hbn0⟩
   clear hcc
   have hrow := hrow0.read
   clear hrow0
   obtain ⟨nH, hnH⟩ := exq eh.length
   rw [← hnH] at hrow ⊢
   obtain ⟨xw10, yw10, YH, hAw, hYw, hCw, t0, t1, t2, ft, bx, hbC⟩ := box_new (r := rh) (s := sh) hrow hnH
   replace hnH := hidI hnH
   replace st := st.adv hbn0
   replace st := (st.adv hbC).box bx
   clear hbn0 hrow hbC bx
   go_upto_region 11 with (first | rw [hAw.out] | rw [hYw.out] | fail)
   try rw [hYw.out]
   rw [hCw.out]
   clear t0 t1 t2 ft hAw hCw hYw
   have hhl := pathA_length rh sh eh 0 vh
   have hsh : -9223372036854775808 ≤ sh ∧ sh ≤ 9223372036854775807 := by omega
   obtain ⟨PH, hPH⟩ := exq (pathA rh sh eh 0 vh)
   rw [← hPH] at hhl
   obtain ⟨nP, hnP⟩ := exq PH.length
   rw [← hnP] at hhl
   replace hPH := hidI hPH
   replace hnP := hidI hnP
   obtain ⟨c0H, c1H, c2H⟩ := (st.1.1).c
   have hcc := progTreeWord yw10 rh sh (.slice aH nH cH) eh vh st.1.1.rd (by omega)
   rw [← hPH.out] at hcc
   go_wp2_with fail
   refine hcc.mono ?_
   rintro e w11 ⟨vp1, rfl, hrow0, hbn⟩
   clear hcc
   have hrl := hrow0.read
   obtain ⟨_, vap1, vcp1, rfl, _, _⟩ := hrl
   have hrl := hrow0.read
   clear hrow0
   rw [← hnP.out] at hrl ⊢
   clear c0H c1H c2H
   replace st := (st.adv hbn).int hrl
   clear hbn hrl
   have hcc := drawLO_any w11 a len cap (st.1.2.2.2.2.2.2.2.1)
   go_wp2_with fail
   refine hcc.mono ?_
   rintro e w12 ⟨ra, sa, ea, aA, cA, ef, el, et, ⟨hRr, hRs, hRe⟩, rfl, hrow0, hbn0⟩
   clear hcc
   have hrow := hrow0.read
   clear hrow0
   obtain ⟨nA, hnA⟩ := exq ea.length
   rw [← hnA] at hrow ⊢
   obtain ⟨xw12, xw122, yw121, yw12, YA, YE, hAw, hBw, hYw, hZw, hZw2, hCw, hDw, t0, t1, t2, ft, u0, u1, u2, fu, bx, bf, hbC⟩ := box_new2E (r := ra) (s := sa) hrow hnA ef el et
   replace hnA := hidI hnA
   replace st := (((st.adv hbn0).adv hbC).ebox bf).box bx
   clear hbn0 hrow hbC bx bf
   go_upto_region 13 with (first | rw [hAw.out] | rw [hBw.out] | rw [hYw.out] | rw [hZw.out] | rw [hZw2.out] | rw [hCw.out] | fail)
   try rw [hYw.out]
   try rw [hZw2.out]
   try rw [hCw.out]
   rw [hDw.out]
   clear t0 t1 t2 ft u0 u1 u2 fu hAw hBw hCw hDw hYw hZw hZw2
   have hll := loL_length ra sa ea (ef, el, et)
   have hsa : -9223372036854775808 ≤ sa ∧ sa ≤ 9223372036854775807 := by omega
   have hlin := loL_in ra sa ea (ef, el, et)
   have hlw : isFo ra sa ea = true → conG ra sa ea = true → walkB ra sa ea 0 (loL ra sa ea (ef, el, et)) = true ∧ walkV ra sa ea 0 (loL ra sa ea (ef, el, et)) = 0 := fun q1 q2 => loop_walk q1 q2 _ hlin
   obtain ⟨LL, hLL⟩ := exq (loL ra sa ea (ef, el, et))
   obtain ⟨Fa, hFa⟩ := exq (isFo ra sa ea)
   obtain ⟨Ca, hCa⟩ := exq (conG ra sa ea)
   rw [← hLL] at hll hlin hlw
   rw [← hFa, ← hCa] at hlw
   obtain ⟨WB, hWB⟩ := exq (walkB ra sa ea 0 LL)
   obtain ⟨WV, hWV⟩ := exq (walkV ra sa ea 0 LL)
   rw [← hWB, ← hWV] at hlw
   obtain ⟨nL, hnL⟩ := exq LL.length
   rw [← hnL] at hll
   replace hLL := hidI hLL
   replace hFa := hidI hFa
   replace hCa := hidI hCa
   replace hWB := hidI hWB
   replace hWV := hidI hWV
   replace hnL := hidI hnL
   replace hlin := hidI hlin
   replace hlw := hidI hlw
   obtain ⟨c0A, c1A, c2A⟩ := (st.1.1).c
   obtain ⟨c0E, c1E, c2E⟩ := (st.1.2.1).c
   have hcc := progLoopOf yw12 ra sa (.slice aA nA cA) ea ef el et st.1.1.rd (by omega)
   rw [← hLL.out] at hcc
   go_wp2_with fail
   refine hcc.mono ?_
   rintro e w13 ⟨vq1, rfl, hrow0, hbn⟩
   clear hcc
   have hrl := hrow0.read
   obtain ⟨_, vaq1, vcq1, rfl, _, _⟩ := hrl
   have hrl := hrow0.read
   clear hrow0
   rw [← hnL.out] at hrl ⊢
   clear c0A c1A c2A c0E c1E c2E
   replace st := (st.adv hbn).int hrl
   clear hbn hrl
   obtain ⟨c0A, c1A, c2A⟩ := (st.1.2.1).c
   obtain ⟨c0E, c1E, c2E⟩ := (st.1.2.2.1).c
   obtain ⟨c0H, c1H, c2H⟩ := (st.1.2.2.2.2.1).c
   have hcc := specTreeWord w13 rh sh (.slice aH nH cH) eh vh st.1.2.2.2.2.1.rd hsh (by omega)
   rw [← hPH.out] at hcc
   go_wp2_with fail
   refine hcc.mono ?_
   rintro e w14 ⟨vp2, rfl, hrow0, hbn⟩
   clear hcc
   have hrl := hrow0.read
   obtain ⟨_, vap2, vcp2, rfl, _, _⟩ := hrl
   have hrl := hrow0.read
   clear hrow0
   rw [← hnP.out] at hrl ⊢
   clear c0A c1A c2A c0E c1E c2E c0H c1H c2H
   replace st := (st.adv hbn).int hrl
   clear hbn hrl
   obtain ⟨c0A, c1A, c2A⟩ := (st.1.2.2.1).c
   obtain ⟨c0E, c1E, c2E⟩ := (st.1.2.2.2.1).c
   obtain ⟨c0H, c1H, c2H⟩ := (st.1.2.2.2.2.2.1).c
   have hcc := sameInts_law w14 (.slice vap1 nP vcp1) (.slice vap2 nP vcp2) PH (st.1.2.2.2.2.1) (st.1.1)
   go_wp2_with fail
   refine hcc.mono ?_
   rintro e w15 ⟨rfl, hbn, hsz9⟩
   clear hcc hsz9
   clear c0A c1A c2A c0E c1E c2E c0H c1H c2H
   replace st := st.adv hbn
   clear hbn
   obtain ⟨c0A, c1A, c2A⟩ := (st.1.2.2.1).c
   obtain ⟨c0E, c1E, c2E⟩ := (st.1.2.2.2.1).c
   obtain ⟨c0H, c1H, c2H⟩ := (st.1.2.2.2.2.2.1).c
   have hcc := specLoopOf w15 ra sa (.slice aA nA cA) ea ef el et st.1.2.2.1.rd hsa (by omega)
   rw [← hLL.out] at hcc
   go_wp2_with fail
   refine hcc.mono ?_
   rintro e w16 ⟨vq2, rfl, hrow0, hbn⟩
   clear hcc
   have hrl := hrow0.read
   obtain ⟨_, vaq2, vcq2, rfl, _, _⟩ := hrl
   have hrl := hrow0.read
   clear hrow0
   rw [← hnL.out] at hrl ⊢
   clear c0A c1A c2A c0E c1E c2E c0H c1H c2H
   replace st := (st.adv hbn).int hrl
   clear hbn hrl
   obtain ⟨c0A, c1A, c2A⟩ := (st.1.2.2.2.1).c
   obtain ⟨c0E, c1E, c2E⟩ := (st.1.2.2.2.2.1).c
   obtain ⟨c0H, c1H, c2H⟩ := (st.1.2.2.2.2.2.2.1).c
   have hcc := sameInts_law w16 (.slice vaq1 nL vcq1) (.slice vaq2 nL vcq2) LL (st.1.2.2.1) (st.1.1)
   go_wp2_with fail
   refine hcc.mono ?_
   rintro e w17 ⟨rfl, hbn, hsz9⟩
   clear hcc hsz9
   clear c0A c1A c2A c0E c1E c2E c0H c1H c2H
   replace st := st.adv hbn
   clear hbn
   obtain ⟨c0A, c1A, c2A⟩ := (st.1.2.2.2.1).c
   have hcc := specWalk w17 ra sa (.slice aA nA cA) ea 0 (.slice vaq1 nL vcq1) LL st.1.2.2.2.1.rd (st.1.2.2.1) hsa (by omega) hlin.out (by omega) (by have := hnL.out; omega)
   rw [← hWB.out, ← hWV.out] at hcc
   go_wp2_with fail
   refine hcc.mono ?_
   rintro e w18 ⟨rfl, hbn⟩
   clear hcc
   clear c0A c1A c2A
   replace st := st.adv hbn
   clear hbn
   obtain ⟨c0A, c1A, c2A⟩ := (st.1.2.2.2.1).c
   have hcc := specFold w18 ra sa (.slice aA nA cA) ea st.1.2.2.2.1.rd hsa (by omega)
   rw [← hFa.out] at hcc
   go_wp2_with fail
   refine hcc.mono ?_
   rintro e w19 ⟨rfl, hbn⟩
   clear hcc
   clear c0A c1A c2A
   replace st := st.adv hbn
   clear hbn
   obtain ⟨c0A, c1A, c2A⟩ := (st.1.2.2.2.1).c
   cases Fa with
   | true =>
    have hcc := specCon w19 ra sa (.slice aA nA cA) ea st.1.2.2.2.1.rd hsa (by omega)
    rw [← hCa.out] at hcc
    go_wp2_with fail
    refine hcc.mono ?_
    rintro e w20 ⟨rfl, hbn⟩
    clear hcc
    clear c0A c1A c2A
    replace st := st.adv hbn
    clear hbn
    cases Ca with
    | true =>
     obtain ⟨h1, h2⟩ := (by first | exact hlw.out rfl rfl | exact hlw.out trivial rfl | exact hlw.out trivial trivial | exact hlw.out : WB = true ∧ WV = 0)
     subst h1 h2
     clear hlw
     replace hFa := hidI hFa.out
     replace hCa := hidI hCa.out
     replace hWB := hidI hWB.out
     replace hWV := hidI hWV.out
     go_wp2
     go_ret
     exact ⟨rfl, st.1.2.2.2.2.2.2.2.2.2.2.2.2.2⟩
    | false =>
     clear hlw
     replace hFa := hidI hFa.out
     replace hCa := hidI hCa.out
     go_wp2
     go_ret
     exact ⟨rfl, st.1.2.2.2.2.2.2.2.2.2.2.2.2.2⟩
   | false =>
    clear hlw
    replace hFa := hidI hFa.out
    go_wp2
    go_ret
    exact ⟨rfl, st.1.2.2.2.2.2.2.2.2.2.2.2.2.2⟩
  | false =>
   replace hFo := hidI hFo.out
   replace hCo := hidI hCo.out
   clear hcnt
   go_upto_region 10 with fail
   clear c0G c1G c2G
   have hcc := drawTW_any w9 a len cap (st.1.2.2.2.2.2.1)
   go_wp2_with fail
   refine hcc.mono ?_
   rintro e w10 ⟨rh, sh, eh, aH, cH, vh, ⟨hQr, hQs, hQe⟩, hvh, rfl, hrow0, hbn0⟩
   clear hcc
   have hrow := hrow0.read
   clear hrow0
   obtain ⟨nH, hnH⟩ := exq eh.length
   rw [← hnH] at hrow ⊢
   obtain ⟨xw10, yw10, YH, hAw, hYw, hCw, t0, t1, t2, ft, bx, hbC⟩ := box_new (r := rh) (s := sh) hrow hnH
   replace hnH := hidI hnH
   replace st := st.adv hbn0
   replace st := (st.adv hbC).box bx
   clear hbn0 hrow hbC bx
   go_upto_region 11 with (first | rw [hAw.out] | rw [hYw.out] | fail)
   try rw [hYw.out]
   rw [hCw.out]
   clear t0 t1 t2 ft hAw hCw hYw
   have hhl := pathA_length rh sh eh 0 vh
   have hsh : -9223372036854775808 ≤ sh ∧ sh ≤ 9223372036854775807 := by omega
   obtain ⟨PH, hPH⟩ := exq (pathA rh sh eh 0 vh)
   rw [← hPH] at hhl
   obtain ⟨nP, hnP⟩ := exq PH.length
   rw [← hnP] at hhl
   replace hPH := hidI hPH
   replace hnP := hidI hnP
   obtain ⟨c0H, c1H, c2H⟩ := (st.1.1).c
   have hcc := progTreeWord yw10 rh sh (.slice aH nH cH) eh vh st.1.1.rd (by omega)
   rw [← hPH.out] at hcc
   go_wp2_with fail
   refine hcc.mono ?_
   rintro e w11 ⟨vp1, rfl, hrow0, hbn⟩
   clear hcc
   have hrl := hrow0.read
   obtain ⟨_, vap1, vcp1, rfl, _, _⟩ := hrl
   have hrl := hrow0.read
   clear hrow0
   rw [← hnP.out] at hrl ⊢
   clear c0H c1H c2H
   replace st := (st.adv hbn).int hrl
   clear hbn hrl
   have hcc := drawLO_any w11 a len cap (st.1.2.2.2.2.2.2.2.1)
   go_wp2_with fail
   refine hcc.mono ?_
   rintro e w12 ⟨ra, sa, ea, aA, cA, ef, el, et, ⟨hRr, hRs, hRe⟩, rfl, hrow0, hbn0⟩
   clear hcc
   have hrow := hrow0.read
   clear hrow0
   obtain ⟨nA, hnA⟩ := exq ea.length
   rw [← hnA] at hrow ⊢
   obtain ⟨xw12, xw122, yw121, yw12, YA, YE, hAw, hBw, hYw, hZw, hZw2, hCw, hDw, t0, t1, t2, ft, u0, u1, u2, fu, bx, bf, hbC⟩ := box_new2E (r := ra) (s := sa) hrow hnA ef el et
   replace hnA := hidI hnA
   replace st := (((st.adv hbn0).adv hbC).ebox bf).box bx
   clear hbn0 hrow hbC bx bf
   go_upto_region 13 with (first | rw [hAw.out] | rw [hBw.out] | rw [hYw.out] | rw [hZw.out] | rw [hZw2.out] | rw [hCw.out] | fail)
   try rw [hYw.out]
   try rw [hZw2.out]
   try rw [hCw.out]
   rw [hDw.out]
   clear t0 t1 t2 ft u0 u1 u2 fu hAw hBw hCw hDw hYw hZw hZw2
   have hll := loL_length ra sa ea (ef, el, et)
   have hsa : -9223372036854775808 ≤ sa ∧ sa ≤ 9223372036854775807 := by omega
   have hlin := loL_in ra sa ea (ef, el, et)
   have hlw : isFo ra sa ea = true → conG ra sa ea = true → walkB ra sa ea 0 (loL ra sa ea (ef, el, et)) = true ∧ walkV ra sa ea 0 (loL ra sa ea (ef, el, et)) = 0 := fun q1 q2 => loop_walk q1 q2 _ hlin
   obtain ⟨LL, hLL⟩ := exq (loL ra sa ea (ef, el, et))
   obtain ⟨Fa, hFa⟩ := exq (isFo ra sa ea)
   obtain ⟨Ca, hCa⟩ := exq (conG ra sa ea)
   rw [← hLL] at hll hlin hlw
   rw [← hFa, ← hCa] at hlw
   obtain ⟨WB, hWB⟩ := exq (walkB ra sa ea 0 LL)
   obtain ⟨WV, hWV⟩ := exq (walkV ra sa ea 0 LL)
   rw [← hWB, ← hWV] at hlw
   obtain ⟨nL, hnL⟩ := exq LL.length
   rw [← hnL] at hll
   replace hLL := hidI hLL
   replace hFa := hidI hFa
   replace hCa := hidI hCa
   replace hWB := hidI hWB
   replace hWV := hidI hWV
   replace hnL := hidI hnL
   replace hlin := hidI hlin
   replace hlw := hidI hlw
   obtain ⟨c0A, c1A, c2A⟩ := (st.1.1).c
   obtain ⟨c0E, c1E, c2E⟩ := (st.1.2.1).c
   have hcc := progLoopOf yw12 ra sa (.slice aA nA cA) ea ef el et st.1.1.rd (by omega)
   rw [← hLL.out] at hcc
   go_wp2_with fail
   refine hcc.mono ?_
   rintro e w13 ⟨vq1, rfl, hrow0, hbn⟩
   clear hcc
   have hrl := hrow0.read
   obtain ⟨_, vaq1, vcq1, rfl, _, _⟩ := hrl
   have hrl := hrow0.read
   clear hrow0
   rw [← hnL.out] at hrl ⊢
   clear c0A c1A c2A c0E c1E c2E
   replace st := (st.adv hbn).int hrl
   clear hbn hrl
   obtain ⟨c0A, c1A, c2A⟩ := (st.1.2.1).c
   obtain ⟨c0E, c1E, c2E⟩ := (st.1.2.2.1).c
   obtain ⟨c0H, c1H, c2H⟩ := (st.1.2.2.2.2.1).c
   have hcc := specTreeWord w13 rh sh (.slice aH nH cH) eh vh st.1.2.2.2.2.1.rd hsh (by omega)
   rw [← hPH.out] at hcc
   go_wp2_with fail
   refine hcc.mono ?_
   rintro e w14 ⟨vp2, rfl, hrow0, hbn⟩
   clear hcc
   have hrl := hrow0.read
   obtain ⟨_, vap2, vcp2, rfl, _, _⟩ := hrl
   have hrl := hrow0.read
   clear hrow0
   rw [← hnP.out] at hrl ⊢
   clear c0A c1A c2A c0E c1E c2E c0H c1H c2H
   replace st := (st.adv hbn).int hrl
   clear hbn hrl
   obtain ⟨c0A, c1A, c2A⟩ := (st.1.2.2.1).c
   obtain ⟨c0E, c1E, c2E⟩ := (st.1.2.2.2.1).c
   obtain ⟨c0H, c1H, c2H⟩ := (st.1.2.2.2.2.2.1).c
   have hcc := sameInts_law w14 (.slice vap1 nP vcp1) (.slice vap2 nP vcp2) PH (st.1.2.2.2.2.1) (st.1.1)
   go_wp2_with fail
   refine hcc.mono ?_
   rintro e w15 ⟨rfl, hbn, hsz9⟩
   clear hcc hsz9
   clear c0A c1A c2A c0E c1E c2E c0H c1H c2H
   replace st := st.adv hbn
   clear hbn
   obtain ⟨c0A, c1A, c2A⟩ := (st.1.2.2.1).c
   obtain ⟨c0E, c1E, c2E⟩ := (st.1.2.2.2.1).c
   obtain ⟨c0H, c1H, c2H⟩ := (st.1.2.2.2.2.2.1).c
   have hcc := specLoopOf w15 ra sa (.slice aA nA cA) ea ef el et st.1.2.2.1.rd hsa (by omega)
   rw [← hLL.out] at hcc
   go_wp2_with fail
   refine hcc.mono ?_
   rintro e w16 ⟨vq2, rfl, hrow0, hbn⟩
   clear hcc
   have hrl := hrow0.read
   obtain ⟨_, vaq2, vcq2, rfl, _, _⟩ := hrl
   have hrl := hrow0.read
   clear hrow0
   rw [← hnL.out] at hrl ⊢
   clear c0A c1A c2A c0E c1E c2E c0H c1H c2H
   replace st := (st.adv hbn).int hrl
   clear hbn hrl
   obtain ⟨c0A, c1A, c2A⟩ := (st.1.2.2.2.1).c
   obtain ⟨c0E, c1E, c2E⟩ := (st.1.2.2.2.2.1).c
   obtain ⟨c0H, c1H, c2H⟩ := (st.1.2.2.2.2.2.2.1).c
   have hcc := sameInts_law w16 (.slice vaq1 nL vcq1) (.slice vaq2 nL vcq2) LL (st.1.2.2.1) (st.1.1)
   go_wp2_with fail
   refine hcc.mono ?_
   rintro e w17 ⟨rfl, hbn, hsz9⟩
   clear hcc hsz9
   clear c0A c1A c2A c0E c1E c2E c0H c1H c2H
   replace st := st.adv hbn
   clear hbn
   obtain ⟨c0A, c1A, c2A⟩ := (st.1.2.2.2.1).c
   have hcc := specWalk w17 ra sa (.slice aA nA cA) ea 0 (.slice vaq1 nL vcq1) LL st.1.2.2.2.1.rd (st.1.2.2.1) hsa (by omega) hlin.out (by omega) (by have := hnL.out; omega)
   rw [← hWB.out, ← hWV.out] at hcc
   go_wp2_with fail
   refine hcc.mono ?_
   rintro e w18 ⟨rfl, hbn⟩
   clear hcc
   clear c0A c1A c2A
   replace st := st.adv hbn
   clear hbn
   obtain ⟨c0A, c1A, c2A⟩ := (st.1.2.2.2.1).c
   have hcc := specFold w18 ra sa (.slice aA nA cA) ea st.1.2.2.2.1.rd hsa (by omega)
   rw [← hFa.out] at hcc
   go_wp2_with fail
   refine hcc.mono ?_
   rintro e w19 ⟨rfl, hbn⟩
   clear hcc
   clear c0A c1A c2A
   replace st := st.adv hbn
   clear hbn
   obtain ⟨c0A, c1A, c2A⟩ := (st.1.2.2.2.1).c
   cases Fa with
   | true =>
    have hcc := specCon w19 ra sa (.slice aA nA cA) ea st.1.2.2.2.1.rd hsa (by omega)
    rw [← hCa.out] at hcc
    go_wp2_with fail
    refine hcc.mono ?_
    rintro e w20 ⟨rfl, hbn⟩
    clear hcc
    clear c0A c1A c2A
    replace st := st.adv hbn
    clear hbn
    cases Ca with
    | true =>
     obtain ⟨h1, h2⟩ := (by first | exact hlw.out rfl rfl | exact hlw.out trivial rfl | exact hlw.out trivial trivial | exact hlw.out : WB = true ∧ WV = 0)
     subst h1 h2
     clear hlw
     replace hFa := hidI hFa.out
     replace hCa := hidI hCa.out
     replace hWB := hidI hWB.out
     replace hWV := hidI hWV.out
     go_wp2
     go_ret
     exact ⟨rfl, st.1.2.2.2.2.2.2.2.2.2.2.2.2.2⟩
    | false =>
     clear hlw
     replace hFa := hidI hFa.out
     replace hCa := hidI hCa.out
     go_wp2
     go_ret
     exact ⟨rfl, st.1.2.2.2.2.2.2.2.2.2.2.2.2.2⟩
   | false =>
    clear hlw
    replace hFa := hidI hFa.out
    go_wp2
    go_ret
    exact ⟨rfl, st.1.2.2.2.2.2.2.2.2.2.2.2.2.2⟩
 | false =>
  replace hFo := hidI hFo.out
  clear hcnt
  go_upto_region 10 with fail
  clear c0G c1G c2G
  have hcc := drawTW_any w8 a len cap (st.1.2.2.2.2.2.1)
  go_wp2_with fail
  refine hcc.mono ?_
  rintro e w9 ⟨rh, sh, eh, aH, cH, vh, ⟨hQr, hQs, hQe⟩, hvh, rfl, hrow0, hbn0⟩
  clear hcc
  have hrow := hrow0.read
  clear hrow0
  obtain ⟨nH, hnH⟩ := exq eh.length
  rw [← hnH] at hrow ⊢
  obtain ⟨xw9, yw9, YH, hAw, hYw, hCw, t0, t1, t2, ft, bx, hbC⟩ := box_new (r := rh) (s := sh) hrow hnH
  replace hnH := hidI hnH
  replace st := st.adv hbn0
  replace st := (st.adv hbC).box bx
  clear hbn0 hrow hbC bx
  go_upto_region 11 with (first | rw [hAw.out] | rw [hYw.out] | fail)
  try rw [hYw.out]
  rw [hCw.out]
  clear t0 t1 t2 ft hAw hCw hYw
  have hhl := pathA_length rh sh eh 0 vh
  have hsh : -9223372036854775808 ≤ sh ∧ sh ≤ 9223372036854775807 := by omega
  obtain ⟨PH, hPH⟩ := exq (pathA rh sh eh 0 vh)
  rw [← hPH] at hhl
  obtain ⟨nP, hnP⟩ := exq PH.length
  rw [← hnP] at hhl
  replace hPH := hidI hPH
  replace hnP := hidI hnP
  obtain ⟨c0H, c1H, c2H⟩ := (st.1.1).c
  have hcc := progTreeWord yw9 rh sh (.slice aH nH cH) eh vh st.1.1.rd (by omega)
  rw [← hPH.out] at hcc
  go_wp2_with fail
  refine hcc.mono ?_
  rintro e w10 ⟨vp1, rfl, hrow0, hbn⟩
  clear hcc
  have hrl := hrow0.read
  obtain ⟨_, vap1, vcp1, rfl, _, _⟩ := hrl
  have hrl := hrow0.read
  clear hrow0
  rw [← hnP.out] at hrl ⊢
  clear c0H c1H c2H
  replace st := (st.adv hbn).int hrl
  clear hbn hrl
  have hcc := drawLO_any w10 a len cap (st.1.2.2.2.2.2.2.2.1)
  go_wp2_with fail
  refine hcc.mono ?_
  rintro e w11 ⟨ra, sa, ea, aA, cA, ef, el, et, ⟨hRr, hRs, hRe⟩, rfl, hrow0, hbn0⟩
  clear hcc
  have hrow := hrow0.read
  clear hrow0
  obtain ⟨nA, hnA⟩ := exq ea.length
  rw [← hnA] at hrow ⊢
  obtain ⟨xw11, xw112, yw111, yw11, YA, YE, hAw, hBw, hYw, hZw, hZw2, hCw, hDw, t0, t1, t2, ft, u0, u1, u2, fu, bx, bf, hbC⟩ := box_new2E (r := ra) (s := sa) hrow hnA ef el et
  replace hnA := hidI hnA
  replace st := (((st.adv hbn0).adv hbC).ebox bf).box bx
  clear hbn0 hrow hbC bx bf
  go_upto_region 13 with (first | rw [hAw.out] | rw [hBw.out] | rw [hYw.out] | rw [hZw.out] | rw [hZw2.out] | rw [hCw.out] | fail)
  try rw [hYw.out]
  try rw [hZw2.out]
  try rw [hCw.out]
  rw [hDw.out]
  clear t0 t1 t2 ft u0 u1 u2 fu hAw hBw hCw hDw hYw hZw hZw2
  have hll := loL_length ra sa ea (ef, el, et)
  have hsa : -9223372036854775808 ≤ sa ∧ sa ≤ 9223372036854775807 := by omega
  have hlin := loL_in ra sa ea (ef, el, et)
  have hlw : isFo ra sa ea = true → conG ra sa ea = true → walkB ra sa ea 0 (loL ra sa ea (ef, el, et)) = true ∧ walkV ra sa ea 0 (loL ra sa ea (ef, el, et)) = 0 := fun q1 q2 => loop_walk q1 q2 _ hlin
  obtain ⟨LL, hLL⟩ := exq (loL ra sa ea (ef, el, et))
  obtain ⟨Fa, hFa⟩ := exq (isFo ra sa ea)
  obtain ⟨Ca, hCa⟩ := exq (conG ra sa ea)
  rw [← hLL] at hll hlin hlw
  rw [← hFa, ← hCa] at hlw
  obtain ⟨WB, hWB⟩ := exq (walkB ra sa ea 0 LL)
  obtain ⟨WV, hWV⟩ := exq (walkV ra sa ea 0 LL)
  rw [← hWB, ← hWV] at hlw
  obtain ⟨nL, hnL⟩ := exq LL.length
  rw [← hnL] at hll
  replace hLL := hidI hLL
  replace hFa := hidI hFa
  replace hCa := hidI hCa
  replace hWB := hidI hWB
  replace hWV := hidI hWV
  replace hnL := hidI hnL
  replace hlin := hidI hlin
  replace hlw := hidI hlw
  obtain ⟨c0A, c1A, c2A⟩ := (st.1.1).c
  obtain ⟨c0E, c1E, c2E⟩ := (st.1.2.1).c
  have hcc := progLoopOf yw11 ra sa (.slice aA nA cA) ea ef el et st.1.1.rd (by omega)
  rw [← hLL.out] at hcc
  go_wp2_with fail
  refine hcc.mono ?_
  rintro e w12 ⟨vq1, rfl, hrow0, hbn⟩
  clear hcc
  have hrl := hrow0.read
  obtain ⟨_, vaq1, vcq1, rfl, _, _⟩ := hrl
  have hrl := hrow0.read
  clear hrow0
  rw [← hnL.out] at hrl ⊢
  clear c0A c1A c2A c0E c1E c2E
  replace st := (st.adv hbn).int hrl
  clear hbn hrl
  obtain ⟨c0A, c1A, c2A⟩ := (st.1.2.1).c
  obtain ⟨c0E, c1E, c2E⟩ := (st.1.2.2.1).c
  obtain ⟨c0H, c1H, c2H⟩ := (st.1.2.2.2.2.1).c
  have hcc := specTreeWord w12 rh sh (.slice aH nH cH) eh vh st.1.2.2.2.2.1.rd hsh (by omega)
  rw [← hPH.out] at hcc
  go_wp2_with fail
  refine hcc.mono ?_
  rintro e w13 ⟨vp2, rfl, hrow0, hbn⟩
  clear hcc
  have hrl := hrow0.read
  obtain ⟨_, vap2, vcp2, rfl, _, _⟩ := hrl
  have hrl := hrow0.read
  clear hrow0
  rw [← hnP.out] at hrl ⊢
  clear c0A c1A c2A c0E c1E c2E c0H c1H c2H
  replace st := (st.adv hbn).int hrl
  clear hbn hrl
  obtain ⟨c0A, c1A, c2A⟩ := (st.1.2.2.1).c
  obtain ⟨c0E, c1E, c2E⟩ := (st.1.2.2.2.1).c
  obtain ⟨c0H, c1H, c2H⟩ := (st.1.2.2.2.2.2.1).c
  have hcc := sameInts_law w13 (.slice vap1 nP vcp1) (.slice vap2 nP vcp2) PH (st.1.2.2.2.2.1) (st.1.1)
  go_wp2_with fail
  refine hcc.mono ?_
  rintro e w14 ⟨rfl, hbn, hsz9⟩
  clear hcc hsz9
  clear c0A c1A c2A c0E c1E c2E c0H c1H c2H
  replace st := st.adv hbn
  clear hbn
  obtain ⟨c0A, c1A, c2A⟩ := (st.1.2.2.1).c
  obtain ⟨c0E, c1E, c2E⟩ := (st.1.2.2.2.1).c
  obtain ⟨c0H, c1H, c2H⟩ := (st.1.2.2.2.2.2.1).c
  have hcc := specLoopOf w14 ra sa (.slice aA nA cA) ea ef el et st.1.2.2.1.rd hsa (by omega)
  rw [← hLL.out] at hcc
  go_wp2_with fail
  refine hcc.mono ?_
  rintro e w15 ⟨vq2, rfl, hrow0, hbn⟩
  clear hcc
  have hrl := hrow0.read
  obtain ⟨_, vaq2, vcq2, rfl, _, _⟩ := hrl
  have hrl := hrow0.read
  clear hrow0
  rw [← hnL.out] at hrl ⊢
  clear c0A c1A c2A c0E c1E c2E c0H c1H c2H
  replace st := (st.adv hbn).int hrl
  clear hbn hrl
  obtain ⟨c0A, c1A, c2A⟩ := (st.1.2.2.2.1).c
  obtain ⟨c0E, c1E, c2E⟩ := (st.1.2.2.2.2.1).c
  obtain ⟨c0H, c1H, c2H⟩ := (st.1.2.2.2.2.2.2.1).c
  have hcc := sameInts_law w15 (.slice vaq1 nL vcq1) (.slice vaq2 nL vcq2) LL (st.1.2.2.1) (st.1.1)
  go_wp2_with fail
  refine hcc.mono ?_
  rintro e w16 ⟨rfl, hbn, hsz9⟩
  clear hcc hsz9
  clear c0A c1A c2A c0E c1E c2E c0H c1H c2H
  replace st := st.adv hbn
  clear hbn
  obtain ⟨c0A, c1A, c2A⟩ := (st.1.2.2.2.1).c
  have hcc := specWalk w16 ra sa (.slice aA nA cA) ea 0 (.slice vaq1 nL vcq1) LL st.1.2.2.2.1.rd (st.1.2.2.1) hsa (by omega) hlin.out (by omega) (by have := hnL.out; omega)
  rw [← hWB.out, ← hWV.out] at hcc
  go_wp2_with fail
  refine hcc.mono ?_
  rintro e w17 ⟨rfl, hbn⟩
  clear hcc
  clear c0A c1A c2A
  replace st := st.adv hbn
  clear hbn
  obtain ⟨c0A, c1A, c2A⟩ := (st.1.2.2.2.1).c
  have hcc := specFold w17 ra sa (.slice aA nA cA) ea st.1.2.2.2.1.rd hsa (by omega)
  rw [← hFa.out] at hcc
  go_wp2_with fail
  refine hcc.mono ?_
  rintro e w18 ⟨rfl, hbn⟩
  clear hcc
  clear c0A c1A c2A
  replace st := st.adv hbn
  clear hbn
  obtain ⟨c0A, c1A, c2A⟩ := (st.1.2.2.2.1).c
  cases Fa with
  | true =>
   have hcc := specCon w18 ra sa (.slice aA nA cA) ea st.1.2.2.2.1.rd hsa (by omega)
   rw [← hCa.out] at hcc
   go_wp2_with fail
   refine hcc.mono ?_
   rintro e w19 ⟨rfl, hbn⟩
   clear hcc
   clear c0A c1A c2A
   replace st := st.adv hbn
   clear hbn
   cases Ca with
   | true =>
    obtain ⟨h1, h2⟩ := (by first | exact hlw.out rfl rfl | exact hlw.out trivial rfl | exact hlw.out trivial trivial | exact hlw.out : WB = true ∧ WV = 0)
    subst h1 h2
    clear hlw
    replace hFa := hidI hFa.out
    replace hCa := hidI hCa.out
    replace hWB := hidI hWB.out
    replace hWV := hidI hWV.out
    go_wp2
    go_ret
    exact ⟨rfl, st.1.2.2.2.2.2.2.2.2.2.2.2.2.2⟩
   | false =>
    clear hlw
    replace hFa := hidI hFa.out
    replace hCa := hidI hCa.out
    go_wp2
    go_ret
    exact ⟨rfl, st.1.2.2.2.2.2.2.2.2.2.2.2.2.2⟩
  | false =>
   clear hlw
   replace hFa := hidI hFa.out
   go_wp2
   go_ret
   exact ⟨rfl, st.1.2.2.2.2.2.2.2.2.2.2.2.2.2⟩
theorem walk (W : World) (a0 : Option Addr) (len0 cap0 : Nat) (z0 : List Int) (w0 : IsRow .u8 W a0 len0 cap0 z0) :
 Calls Tryz.prog 3 #[.slice a0 len0 cap0] W fun e w' => e = .returned (.bool true) ∧ Below W.heap.size W w' := by
 by_cases hbig : 1048576 < len0
 · go_enter Tryz.func3, Tryz.ntmps3
   go_wp2_with fail
   refine (big_yes _ a0 len0 cap0 hbig).mono ?_
   rintro e w1 ⟨rfl, rfl⟩
   go_wp2_with fail
   go_ret
   exact ⟨rfl, Below.refl _ _⟩
 · exact walk0 W a0 len0 cap0 (codeIn_row w0 (by omega)) (row_cap w0)
set_option maxRecDepth 100000 in
theorem lifted (os : Os) (started : os.Started) (H : Type) (enc : TypeId × Value → H) :
 ReturnsInHanded {} Tryz.checked os 3 .any (Rows.fnTreesSpec.pre6 enc Tryz.prog Tryz.f3 Rows.fnTreesRow.domain false) (Rows.fnTreesSpec.post enc Tryz.prog Tryz.f3 false true false false) := by
 refine returnsInHanded_of_change (C := Tryz.checked) own started (by kernel_rfl) Tryz.func3
  (ChangeSpec.witness6 (enc := enc) (C := Tryz.checked) false ⟨#[], #[.slice none 0 0], []⟩ 8 (by kernel_rfl) (by kernel_rfl) (by kernel_rfl) (by kernel_rfl)) ?_
 intro W base args ds gs before hval0 hW hcnd _
 have hval : ∀ (j : Nat) t v, Tryz.f3.params[j]? = some t → args[j]? = some v → Value.okWide Tryz.prog W .any base t v := hval0
 have hW' := hW
 obtain ⟨p, q, hA0, hV, rfl, hfz, hnd⟩ := hW
 have hA : DataW.TrodAll enc Tryz.prog W 0 (fun _ => true) true Tryz.f3.params.toList args.toList ds p := hA0
 rw [Tryz.params3] at hA hval
 obtain ⟨v0, vs0, d0, ds0, p0, q0, hargs, rfl, rfl, h0, r0⟩ := trodAll_cons hA
 obtain ⟨rfl, rfl, rfl⟩ := trodAll_nil r0
 obtain rfl : args = #[v0] := by cases args; simp_all
 obtain ⟨rfl, rfl⟩ := trodVars_none hV
 obtain ⟨a0, len0, cap0, rfl⟩ := okWide_slice Tryz.underlying22 (hval 0 22 v0 rfl rfl)
 have k0 := h0
 have lt0 : ∀ x ∈ p0, x.block < W.heap.size := by obtain ⟨m, hm⟩ := k0; exact DataW.trod_lt m _ _ _ hm
 obtain ⟨z0, w0⟩ : ∃ zs, IsRow .u8 W a0 len0 cap0 zs := by
  obtain ⟨fuel, hf⟩ := h0
  rcases open_ints Tryz.underlying22 Tryz.underlying5 (by kernel_rfl) hf with ⟨hcs, _⟩ | ⟨x, l, c, zs, hcs, _, hl, hm, hz, _, hcell, hwz⟩
  · simp [Value.cells] at hcs
    obtain ⟨rfl, rfl, rfl⟩ := hcs
    exact ⟨[], .inl ⟨rfl, rfl, rfl, rfl⟩⟩
  · simp [Value.cells] at hcs
    obtain ⟨rfl, rfl, rfl⟩ := hcs
    exact ⟨zs, .inr ⟨_, rfl, hl, hm, by simpa using hz, hcell, hwz⟩⟩
 clear hA0 hval0
 refine (walk W a0 len0 cap0 z0 w0).mono fun e W' ⟨he, hg⟩ => ?_
 subst he
 exact ⟨_, rfl, _, _, _, [], _, [], hW', trodAll_mk1 (shut_bool Tryz.underlying4 _), (trodAll_cons_mk (Below.trod laidOut (by kernel_rfl) (of_decide_eq_true (by kernel_rfl)) k0 hg lt0) trodAll_mk0), rfl, hg.frame _, fun h => by cases h⟩
theorem over : Rows.fnTreesRow.holds Tryz.pinned (OpenSpec.ofChange Rows.fnTreesSpec) :=
 OpenClaim.holds_of_wide 3 Tryz.f3 rfl rfl rfl rfl rfl rfl rfl ⟨rfl, rfl, rfl, rfl, rfl⟩ rfl rfl rfl rfl rfl (by kernel_rfl) Tryz.func3 (by kernel_rfl)
  (of_decide_eq_true (by kernel_rfl)) (by unfold Func.isWrapper; first | (rw [if_pos (by decide +kernel)]; kernel_rfl) | (rw [if_neg (by decide +kernel)]; exact ⟨rfl, rfl⟩))
  (fun os started H enc _ => lifted os started H enc)
theorem proved : Rows.FnTreesSaid := over
#print axioms proved
end Go.Proofs.YtgnomlcjikfdhaaGreat.fnTrees
