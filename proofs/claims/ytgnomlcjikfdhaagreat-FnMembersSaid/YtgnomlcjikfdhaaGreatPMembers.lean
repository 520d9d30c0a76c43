/- For every slice of bytes, laws.FnMembers returns true and leaves its argument as it is: subgroups drawn from the bytes contain their loops, the loops' inverses, and what a loop is multiplied to just as that; membership, trivial and whole groups are the model's. Conditions: none beyond the row's. -/
import Derived.WalkKit
import Derived.ProofKit
import Derived.OpenShut
import Derived.ShutString
import Derived.Below
import Derived.Test.YtgnomlcjikfdhaaGreatJ43Me
import Derived.Test.YtgnomlcjikfdhaaGreatJ44Me
import Derived.Test.YtgnomlcjikfdhaaGreatJ46Me
import Derived.Test.YtgnomlcjikfdhaaGreatJ35Me
import Derived.Test.YtgnomlcjikfdhaaGreatJ36Me
import Derived.Test.YtgnomlcjikfdhaaGreatJ41Me
import Derived.Test.YtgnomlcjikfdhaaGreatJ39Me
import Derived.Test.YtgnomlcjikfdhaaGreatJ3Me
import Derived.Test.YtgnomlcjikfdhaaGreatJ12Me
import Derived.Test.YtgnomlcjikfdhaaGreatJ11Me
import Derived.Test.YtgnomlcjikfdhaaGreatJ2Me
import Derived.Test.YtgnomlcjikfdhaaGreatJ34Me
import Derived.Test.YtgnomlcjikfdhaaGreatJ6Me
namespace Go.Proofs.YtgnomlcjikfdhaaGreat.fnMembers
open Go.ChangeShapes Go.WideShapes Go.ChangeAt Go.RowKit
open Go.ChangeMaps (open_string shut_string)
set_option linter.unusedVariables false
theorem own : ownKnob Tryz.prog.godebug = none := by kernel_rfl
theorem laidOut : laidOutB Tryz.prog = true := by kernel_rfl
set_option maxHeartbeats 51200000 in
set_option maxRecDepth 100000 in
theorem walk0 (w : World) (a : Option Addr) (len cap : Nat) (hcode : eF w.heap.size w a len) (hcap : len ≤ cap) :
 Calls Tryz.prog 4 #[.slice a len cap] w fun e w' => e = .returned (.bool true) ∧ Below w.heap.size w w' := by
 have hlen := hcode.1; have st := St.beg hcode; clear hcode; go_enter Tryz.func4, Tryz.ntmps4
 go_wp2_with fail; refine (MK _ a len cap hlen).mono ?_; rintro e w0 ⟨rfl, rfl⟩; have hcc := CQ w a len cap st.1.1; go_wp2_with fail; refine hcc.mono ?_; rintro e w1 ⟨r, s, es, aG, cG, vW, zw, ⟨hPr, hPs, hPe⟩, ⟨hwi, hwl⟩, rfl, hrow0, hrw0, hbn0⟩; clear hcc; have hrow := hrow0.read; have hrw := hrw0.read; clear hrow0 hrw0; have hrw9 := hrw; obtain ⟨_, vaW, vcW, rfl, _, _⟩ : bD _ _ vW zw := hrw9; obtain ⟨nW, hnW⟩ := ag zw.length
 rw [← hnW] at hrw ⊢; replace hnW := ae hnW; obtain ⟨nG, hnG⟩ := ag es.length; rw [← hnG] at hrow ⊢; obtain ⟨xw1, yw1, YG, hAw, hYw, hCw, t0, t1, t2, ft, bx, hbC⟩ := lL (r := r) (s := s) hrow hnG; replace hnG := ae hnG; replace st := st.adv hbn0; replace st := st.int hrw; clear hrw; replace st := (st.adv hbC).box bx; clear hbn0 hrow hbC bx; go_upto_region 4 with (first | rw [hAw.out] | rw [hYw.out] | fail)
 try rw [hYw.out]
 rw [hCw.out]; clear t0 t1 t2 ft hAw hCw hYw; have hes : es.length ≤ 1048576 := by omega
 have hsb : -9223372036854775808 ≤ s ∧ s ≤ 9223372036854775807 := by omega
 have hLW : dL r s es = true → ∀ z ∈ kY r s es 0 3, bi z ∧ z.length ≤ 3 ∧ dF r s es z = true ∧ dF r s es (invL z) = true ∧ ∀ w, bi w → dF r s es (ry z w) = dF r s es w := fun h z hz => JX h hz
 have hLn := (Ag r s es 0 3).1; obtain ⟨IS, hIS⟩ := ag (dL r s es); obtain ⟨IN, hIN⟩ := ag (dF r s es zw); obtain ⟨LS, hLS⟩ := ag (kY r s es 0 3); rw [← hIS, ← hLS] at hLW; rw [← hLS] at hLn; have hINN : (IN != IN) = false := by simp
 have hISS : (IS != IS) = false := by simp
 replace hLW := ae hLW; replace hIS := ae hIS; replace hIN := ae hIN; replace hLS := ae hLS; replace hwi := ae hwi; replace hwl := ae hwl; obtain ⟨c0G, c1G, c2G⟩ := (st.1.1).c; have hcc := rQ yw1 r s (.slice aG nG cG) es (.slice vaW nW vcW) zw st.1.1.rd (st.1.2.1) hwi.out (by omega) (by have := hwl.out; omega)
 rw [← hIN.out] at hcc; go_wp2_with fail; refine hcc.mono ?_; rintro e w2 ⟨rfl, hbn⟩; clear hcc; clear c0G c1G c2G; replace st := st.adv hbn; clear hbn; go_upto_region 5 with fail
 go_wp2; obtain ⟨wda, hwd⟩ := ag w2.drew; have hbn : Below w2.heap.size w2 wda := by rw [hwd]; exact bf (Below.refl _ _) 1
 have hwwda := ae hwd.symm; replace hwd := ae hwd; replace st := st.adv hbn; clear hbn; obtain ⟨c0G, c1G, c2G⟩ := (st.1.1).c; refine bV (fun _ _ d _ _ h => by cases d <;> exact h) (fun Q' hnorm hpan => ?_)
 refine wp_region_held_drew (S := (fun W0 => W0.cell? ⟨YG, 0, none⟩ = some (.int .i64 r) ∧ W0.cell? ⟨YG, 1, none⟩ = some (.int .i64 s) ∧ W0.cell? ⟨YG, 2, none⟩ = some (.slice aG nG cG))) (by kernel_rfl) ?_ (fun hHeld => ?_)
 · try dsimp only
   (try rw [hwwda.out]); ((repeat' apply And.intro) <;> with_reducible assumption)
 rw [hwwda.out] at hHeld ⊢; refine tk 0 31 ?_; refine tk 1 32 ?_; refine tk 2 33 ?_; refine rd 3 (fun K hK => ?_)
 rw [if_pos (by rfl)]
 go_simp; have hcc := BI wda r s (.slice aG nG cG) es (.slice vaW nW vcW) zw st.1.1.rd (st.1.2.1) hsb hwi.out (by omega) (by have := hwl.out; omega)
 rw [← hIN.out] at hcc; refine hcc.mono ?_; rintro e w4 ⟨rfl, hbn⟩; clear hcc; clear c0G c1G c2G; replace st := st.adv hbn; clear hbn; obtain ⟨c0G, c1G, c2G⟩ := (st.1.1).c; refine hK.out _ _ ?_ (fun hHeld => ?_)
 · try dsimp only
   (try rw [hwwda.out]); ((repeat' apply And.intro) <;> with_reducible assumption)
 clear hK; try simp only [Act.put, aJ, aH, aI]
 refine tk 4 35 ?_; try rw [hINN]
 refine tk 5 36 ?_; refine tg 6 37 ?_; refine tg 8 39 ?_; refine rd 7 (fun K hK => ?_)
 rw [if_pos (by kernel_rfl)]
 go_simp; have hcc := yX w4 r s (.slice aG nG cG) es st.1.1.rd (by omega)
 rw [← hIS.out] at hcc; refine hcc.mono ?_; rintro e w5 ⟨rfl, hbn⟩; clear hcc; clear c0G c1G c2G; replace st := st.adv hbn; clear hbn; obtain ⟨c0G, c1G, c2G⟩ := (st.1.1).c; refine hK.out _ _ ?_ (fun hHeld => ?_)
 · try dsimp only
   (try rw [hwwda.out]); ((repeat' apply And.intro) <;> with_reducible assumption)
 clear hK; try simp only [Act.put, aJ, aH, aI]
 refine rd 9 (fun K hK => ?_)
 rw [if_pos (by kernel_rfl)]
 go_simp; have hcc := jX w5 r s (.slice aG nG cG) es st.1.1.rd hsb (by omega)
 rw [← hIS.out] at hcc; refine hcc.mono ?_; rintro e w6 ⟨rfl, hbn⟩; clear hcc; clear c0G c1G c2G; replace st := st.adv hbn; clear hbn; obtain ⟨c0G, c1G, c2G⟩ := (st.1.1).c; refine hK.out _ _ ?_ (fun hHeld => ?_)
 · try dsimp only
   (try rw [hwwda.out]); ((repeat' apply And.intro) <;> with_reducible assumption)
 clear hK; try simp only [Act.put, aJ, aH, aI]
 refine tg 10 41 ?_; try rw [hISS]
 refine tk 11 42 ?_; refine wpAnyH_done (by kernel_rfl) ?_ _
 refine hnorm _ _ ?_; clear hnorm hpan; repeat clear hHeld
 try simp only [Exit.then]
 clear c0G c1G c2G; obtain ⟨c0G, c1G, c2G⟩ := (st.1.1).c; have hcc := jX w6 r s (.slice aG nG cG) es st.1.1.rd hsb (by omega)
 rw [← hIS.out] at hcc; go_wp2_with fail; refine hcc.mono ?_; rintro e w7 ⟨rfl, hbn⟩; clear hcc; clear c0G c1G c2G; replace st := st.adv hbn; clear hbn; go_upto_if 44 with fail
 go_cut [] from 44 to 85 (fun wx => Hid (Below w7.heap.size w7 wx))
 case first =>
  replace st := st.blw (Below.refl w7.heap.size w7)
  cases IS with
  | true =>
   have hLW' := (by first | exact hLW.out rfl | exact hLW.out trivial | exact hLW.out : ∀ z ∈ LS, bi z ∧ z.length ≤ 3 ∧ dF r s es z = true ∧ dF r s es (invL z) = true ∧ ∀ w, bi w → dF r s es (ry z w) = dF r s es w)
   clear hLW; replace hLW' := ae hLW'; replace hIS := ae hIS.out; obtain ⟨c0G, c1G, c2G⟩ := (st.1.2.1).c; have hcc := zy w7 r s (.slice aG nG cG) es 0 3 st.1.2.1.rd hsb (by omega)
   rw [← hLS.out] at hcc; go_wp2_with fail; refine hcc.mono ?_; rintro e w8 ⟨vL, us, rfl, hrw0, hbn0⟩; clear hcc; have hrs := hrw0.read; clear hrw0; have hrs9 := hrs; obtain ⟨_, aL, cL, rfl, _, _⟩ : dJ _ _ vL LS := hrs9; obtain ⟨nL, hnL⟩ := ag LS.length; rw [← hnL] at hrs hLn ⊢; replace hnL := ae hnL; clear c0G c1G c2G; replace st := (st.adv hbn0).wds hrs; clear hbn0 hrs; go_wp2
   go_loopg [7] 8 (fun g i wr => ∃ k : Nat, g = 8 - k ∧ i = .int .i64 (k : Nat) ∧ k ≤ 8 ∧ Hid (Below w8.heap.size w8 wr))
   case atStart => exact ⟨0, rfl, rfl, by omega, ae (Below.refl _ _)⟩
   case round =>
    obtain ⟨k, hgk, rfl, hk8, hbl⟩ := hrel; have hbn := hbl.out; replace hgk := ae hgk; replace st := st.adv hbn; clear hbn; by_cases hkn : k < nL
    case pos =>
     have hkn' : (k : Int) < (nL : Int) := by omega
     by_cases hk7 : k < 8
     case pos =>
      have hk7' : (k : Int) < (8 : Int) := by omega
      obtain ⟨hzi, hzl, hzs, hzv, hzm⟩ := hLW'.out (LS.getD k []) (by have := hnL.out; rw [gD, gE (by omega)]; exact List.getElem_mem _)
      obtain ⟨bl, off, vz, rfl, hbl1, hcz, hrz⟩ := dJ.at_ st.1.1 k (by have := hnL.out; omega)
      obtain ⟨ZZ, hZZ⟩ := ag (LS.getD k []); rw [← hZZ] at hzi hzl hzs hzv hzm hrz; replace hZZ := ae hZZ; replace st := ((st.blw hbl.out).int hrz).cel ⟨hcz, hbl1⟩; clear hrz hcz; have hzmw := hzm zw hwi.out; rw [← hIN.out] at hzmw; clear hzm; have hml := vN ZZ zw; have hvl := qi ZZ; replace hzmw := ae hzmw; replace hzs := ae hzs; replace hzv := ae hzv; replace hzi := ae hzi; go_upto_region 12 with fail
      go_wp2; obtain ⟨wdb, hwd⟩ := ag wr.drew; have hbn : Below wr.heap.size wr wdb := by rw [hwd]; exact bf (Below.refl _ _) 1
      have hwwdb := ae hwd.symm; replace hwd := ae hwd; replace st := st.adv hbn; clear hbn; obtain ⟨c0G, c1G, c2G⟩ := (st.1.2.2.2.2.2.1).c; have cz := (st.1.1).1; refine bV (fun _ _ d _ _ h => by cases d <;> exact h) (fun Q' hnorm hpan => ?_)
      refine wp_region_held_drew (S := (fun W0 => W0.cell? ⟨YG, 0, none⟩ = some (.int .i64 r) ∧ W0.cell? ⟨YG, 1, none⟩ = some (.int .i64 s) ∧ W0.cell? ⟨YG, 2, none⟩ = some (.slice aG nG cG) ∧ W0.cell? ⟨bl, off + k, none⟩ = some vz)) (by kernel_rfl) ?_ (fun hHeld => ?_)
      · try dsimp only
        (try rw [hwwdb.out]); ((repeat' apply And.intro) <;> with_reducible assumption)
      rw [hwwdb.out] at hHeld ⊢; refine tk 0 57 ?_; refine tk 1 58 ?_; refine tk 2 59 ?_; refine tk 3 60 ?_; refine tk 4 61 ?_ (v := vz) (hy := by exact Or.inl ⟨by rfl, by intro w hSw; obtain ⟨_, _, _, hSi⟩ := hSw; go_simp; (try with_reducible rfl)⟩)
      refine rd 5 (fun K hK => ?_)
      rw [if_pos (by rfl)]
      go_simp; have hcc := rQ wdb r s (.slice aG nG cG) es vz ZZ st.1.2.2.2.2.2.1.rd (st.1.2.1) hzi.out (by omega) (by omega)
      rw [hzs.out] at hcc; refine hcc.mono ?_; rintro e w11 ⟨rfl, hbn⟩; clear hcc; clear c0G c1G c2G cz; replace st := st.adv hbn; clear hbn; obtain ⟨c0G, c1G, c2G⟩ := (st.1.2.2.2.2.2.1).c; have cz := (st.1.1).1; refine hK.out _ _ ?_ (fun hHeld => ?_)
      · try dsimp only
        (try rw [hwwdb.out]); ((repeat' apply And.intro) <;> with_reducible assumption)
      clear hK; try simp only [Act.put, aJ, aH, aI]
      refine tk 6 63 ?_; refine tk 7 64 ?_; refine tg 8 65 ?_; refine tg 9 66 ?_; refine tg 10 67 ?_; refine tg 11 68 ?_; refine tg 12 69 ?_ (v := vz) (hy := by exact Or.inl ⟨by rfl, by intro w hSw; obtain ⟨_, _, _, hSi⟩ := hSw; go_simp; (try with_reducible rfl)⟩)
      refine rd 13 (fun K hK => ?_)
      rw [if_pos (by kernel_rfl)]
      go_simp; have hcc := KT w11 vz ZZ (st.1.2.1) (by omega)
      refine hcc.mono ?_; rintro e w12 ⟨vI, rfl, hrow0, hbn⟩; have hrI := ae hrow0.read; clear hrow0; clear hcc; clear c0G c1G c2G cz; replace st := st.adv hbn; clear hbn; obtain ⟨c0G, c1G, c2G⟩ := (st.1.2.2.2.2.2.1).c; have cz := (st.1.1).1; refine hK.out _ _ ?_ (fun hHeld => ?_)
      · try dsimp only
        (try rw [hwwdb.out]); ((repeat' apply And.intro) <;> with_reducible assumption)
      clear hK; try simp only [Act.put, aJ, aH, aI]
      refine rd 14 (fun K hK => ?_)
      rw [if_pos (by kernel_rfl)]
      go_simp; have hcc := rQ w12 r s (.slice aG nG cG) es vI (invL ZZ) st.1.2.2.2.2.2.1.rd hrI.out bi.invL (by omega) (by omega)
      rw [hzv.out] at hcc; refine hcc.mono ?_; rintro e w13 ⟨rfl, hbn⟩; clear hcc; clear c0G c1G c2G cz; replace st := st.adv hbn; clear hbn; obtain ⟨c0G, c1G, c2G⟩ := (st.1.2.2.2.2.2.1).c; have cz := (st.1.1).1; refine hK.out _ _ ?_ (fun hHeld => ?_)
      · try dsimp only
        (try rw [hwwdb.out]); ((repeat' apply And.intro) <;> with_reducible assumption)
      clear hK; try simp only [Act.put, aJ, aH, aI]
      refine tg 15 72 ?_; refine tk 16 73 ?_; refine tk 17 74 ?_; refine tg 18 75 ?_; refine tg 19 76 ?_; refine tg 20 77 ?_; refine tg 21 78 ?_; refine tg 22 79 ?_ (v := vz) (hy := by exact Or.inl ⟨by rfl, by intro w hSw; obtain ⟨_, _, _, hSi⟩ := hSw; go_simp; (try with_reducible rfl)⟩)
      refine tg 23 80 ?_; refine tg 26 83 ?_; refine rd 24 (fun K hK => ?_)
      rw [if_pos (by kernel_rfl)]
      go_simp; have hcc := Dk w13 vz (.slice vaW nW vcW) ZZ zw (st.1.2.1) (st.1.2.2.2.2.2.2.1) (by omega) (by have := hwl.out; omega)
      refine hcc.mono ?_; rintro e w14 ⟨vM, rfl, hrow0, hbn⟩; have hrM := ae hrow0.read; clear hrow0; clear hcc; clear c0G c1G c2G cz; replace st := st.adv hbn; clear hbn; obtain ⟨c0G, c1G, c2G⟩ := (st.1.2.2.2.2.2.1).c; have cz := (st.1.1).1; refine hK.out _ _ ?_ (fun hHeld => ?_)
      · try dsimp only
        (try rw [hwwdb.out]); ((repeat' apply And.intro) <;> with_reducible assumption)
      clear hK; try simp only [Act.put, aJ, aH, aI]
      refine rd 25 (fun K hK => ?_)
      rw [if_pos (by kernel_rfl)]
      go_simp; have hcc := rQ w14 r s (.slice aG nG cG) es vM (ry ZZ zw) st.1.2.2.2.2.2.1.rd hrM.out (yJ hzi.out hwi.out) (by omega) (by have := hwl.out; omega)
      rw [hzmw.out] at hcc; refine hcc.mono ?_; rintro e w15 ⟨rfl, hbn⟩; clear hcc; clear c0G c1G c2G cz; replace st := st.adv hbn; clear hbn; obtain ⟨c0G, c1G, c2G⟩ := (st.1.2.2.2.2.2.1).c; have cz := (st.1.1).1; refine hK.out _ _ ?_ (fun hHeld => ?_)
      · try dsimp only
        (try rw [hwwdb.out]); ((repeat' apply And.intro) <;> with_reducible assumption)
      clear hK; try simp only [Act.put, aJ, aH, aI]
      refine tg 27 84 ?_; try rw [hINN]
      refine tk 28 85 ?_; refine wpAnyH_done (by kernel_rfl) ?_ _
      refine hnorm _ _ ?_; clear hnorm hpan; repeat clear hHeld
      try simp only [Exit.then]
      clear c0G c1G c2G cz; go_wp2; go_roundg (8 - (k + 1))
      case rel => exact ⟨k + 1, rfl, by go_num, by omega, ae (st.1.2.2.1)⟩
      case measure => have := hgk.out; omega
     case neg =>
      obtain rfl : k = 8 := by omega
      clear hLW'; go_wp2; go_meet
      case rel => exact ae (st.1.2.1)
    case neg =>
     have hkn' : ¬ (k : Int) < (nL : Int) := by omega
     clear hLW'; go_wp2; go_meet
     case rel => exact ae (st.1.2.1)
  | false =>
   clear hLW; replace hIS := ae hIS.out; go_wp2; go_meet
   case rel => exact ae (st.1.1)
 case rest =>
  clear hLW; have hbn := hcut.out; clear hcut; replace st := st.adv hbn; clear hbn; go_upto_region 14 with fail
  have hcc := AX wc a len cap (st.1.2.2.1); go_wp2_with fail; refine hcc.mono ?_; rintro e w9 ⟨rA, sA, eA, aA, cA, vB, zB, ⟨hAr, hAs, hAe⟩, ⟨hBl, hB6⟩, rfl, hrow0, hrs, hbn0⟩; clear hcc; have hrow := hrow0.read; clear hrow0; have hrs9 := hrs; obtain ⟨_, vaB, vcB, rfl, _, _⟩ : dJ _ _ vB zB := hrs9; obtain ⟨nB, hnB⟩ := ag zB.length; rw [← hnB] at hrs hBl ⊢; replace hnB := ae hnB; obtain ⟨nA, hnA⟩ := ag eA.length
  rw [← hnA] at hrow ⊢; obtain ⟨xw9, yw9, YA, hAw, hYw, hCw, t0, t1, t2, ft, bx, hbC⟩ := lL (r := rA) (s := sA) hrow hnA; replace hnA := ae hnA; replace st := st.adv hbn0; replace st := st.wds hrs; clear hrs; replace st := (st.adv hbC).box bx; clear hbn0 hrow hbC bx; go_upto_region 15 with (first | rw [hAw.out] | rw [hYw.out] | fail)
  try rw [hYw.out]
  rw [hCw.out]; clear t0 t1 t2 ft hAw hCw hYw; have hsA : -9223372036854775808 ≤ sA ∧ sA ≤ 9223372036854775807 := by omega
  have hBi : ∀ z ∈ zB, bi z := fun z hz => (hB6 z hz).1
  have hBs : dP (zB.map List.length) ≤ 10000000 := by have h1 := Gf (m := 6) (fun z hz => (hB6 z hz).2); have := hnB.out; omega
  clear hB6; obtain ⟨CA, hCA⟩ := ag (jQ rA sA eA zB); have hCC : (CA == CA) = true := by simp
  replace hBi := ae hBi; replace hBs := ae hBs; replace hCA := ae hCA; have hcc := EL yw9 a len cap (st.1.2.2.2.2.1); go_wp2_with fail; refine hcc.mono ?_; rintro e w10 ⟨nn, ⟨hn1, hn2⟩, rfl, hbn⟩; clear hcc; replace st := st.adv hbn; clear hbn; have hbd := MO nn; have hT1 : gG nn = true → ql (dY nn) (fJ nn) [] = true := IJ; have hW1 : gG nn = true → oW (dY nn) (fJ nn) (lQ nn) = true := Hz; have hwl3 := rf nn
  obtain ⟨NR, hNR⟩ := ag (dY nn); obtain ⟨NS, hNS⟩ := ag (fJ nn); obtain ⟨NB, hNB⟩ := ag (gG nn); obtain ⟨WL, hWL⟩ := ag (lQ nn); obtain ⟨NE, hNE⟩ : ∃ z : List Ed, z = [] := ⟨_, rfl⟩; have hNEl : NE.length = 0 := by rw [hNE]; rfl
  rw [← hNR, ← hNS] at hbd; rw [← hNR, ← hNS, ← hNB, ← hNE] at hT1; rw [← hNR, ← hNS, ← hNB, ← hWL] at hW1; rw [← hWL] at hwl3; have hNN : (NB == NB) = true := by simp
  replace hT1 := ae hT1; replace hW1 := ae hW1; replace hNR := ae hNR; replace hNS := ae hNS; replace hNB := ae hNB; replace hWL := ae hWL; replace hNE := ae hNE; have hcc := zh w10 nn; rw [← hNR.out, ← hNS.out, ← hNB.out, ← hNE.out] at hcc; go_wp2_with fail; refine hcc.mono ?_; rintro e w11 ⟨aX, cX, rfl, hrow0, hbn0⟩; clear hcc; have hrow := hrow0.read; clear hrow0; obtain ⟨nX, hnX⟩ := ag NE.length
  rw [← hnX] at hrow ⊢; obtain ⟨xw11, yw11, YX, hAw, hYw, hCw, t0, t1, t2, ft, bx, hbC⟩ := lL (r := NR) (s := NS) hrow hnX; replace hnX := ae hnX; replace st := st.adv hbn0; replace st := (st.adv hbC).box bx; clear hbn0 hrow hbC bx; go_upto_region 17 with (first | rw [hAw.out] | rw [hYw.out] | fail)
  try rw [hYw.out]
  rw [hCw.out]; clear t0 t1 t2 ft hAw hCw hYw; have hcc := G5 yw11 nn; rw [← hNR.out, ← hNS.out, ← hNB.out, ← hNE.out] at hcc; go_wp2_with fail; refine hcc.mono ?_; rintro e w12 ⟨aY, cY, rfl, hrow0, hbn0⟩; clear hcc; have hrow := hrow0.read; clear hrow0; obtain ⟨nY, hnY⟩ := ag NE.length; rw [← hnY] at hrow ⊢; obtain ⟨xw12, yw12, YY, hAw, hYw, hCw, t0, t1, t2, ft, bx, hbC⟩ := lL (r := NR) (s := NS) hrow hnY
  replace hnY := ae hnY; replace st := st.adv hbn0; replace st := (st.adv hbC).box bx; clear hbn0 hrow hbC bx; go_upto_region 18 with (first | rw [hAw.out] | rw [hYw.out] | fail)
  try rw [hYw.out]
  rw [hCw.out]; clear t0 t1 t2 ft hAw hCw hYw; have hcc := xg yw12 nn; rw [← hNR.out, ← hNS.out, ← hNB.out, ← hWL.out] at hcc; go_wp2_with fail; refine hcc.mono ?_; rintro e w13 ⟨aP, cP, rfl, hrow0, hbn0⟩; clear hcc; have hrow := hrow0.read; clear hrow0; obtain ⟨nP, hnP⟩ := ag WL.length; rw [← hnP] at hrow ⊢; obtain ⟨xw13, yw13, YP, hAw, hYw, hCw, t0, t1, t2, ft, bx, hbC⟩ := lL (r := NR) (s := NS) hrow hnP
  replace hnP := ae hnP; replace st := st.adv hbn0; replace st := (st.adv hbC).box bx; clear hbn0 hrow hbC bx; go_upto_region 19 with (first | rw [hAw.out] | rw [hYw.out] | fail)
  try rw [hYw.out]
  rw [hCw.out]; clear t0 t1 t2 ft hAw hCw hYw; have hcc := xE yw13 nn; rw [← hNR.out, ← hNS.out, ← hNB.out, ← hWL.out] at hcc; go_wp2_with fail; refine hcc.mono ?_; rintro e w14 ⟨aQ, cQ, rfl, hrow0, hbn0⟩; clear hcc; have hrow := hrow0.read; clear hrow0; obtain ⟨nQ, hnQ⟩ := ag WL.length; rw [← hnQ] at hrow ⊢; obtain ⟨xw14, yw14, YQ, hAw, hYw, hCw, t0, t1, t2, ft, bx, hbC⟩ := lL (r := NR) (s := NS) hrow hnQ
  replace hnQ := ae hnQ; replace st := st.adv hbn0; replace st := (st.adv hbC).box bx; clear hbn0 hrow hbC bx; go_upto_region 20 with (first | rw [hAw.out] | rw [hYw.out] | fail)
  try rw [hYw.out]
  rw [hCw.out]; clear t0 t1 t2 ft hAw hCw hYw; have hcc := EZ yw14 a len cap (st.1.2.2.2.2.2.2.2.2.1); go_wp2_with fail; refine hcc.mono ?_; rintro e w15 ⟨rT, sT, eT, ⟨hTr, hTs, hTe⟩, aT, cT, rfl, hrow0, hbn0⟩; clear hcc; have hrow := hrow0.read; clear hrow0; obtain ⟨nT, hnT⟩ := ag eT.length; rw [← hnT] at hrow ⊢; obtain ⟨xw15, yw15, YT, hAw, hYw, hCw, t0, t1, t2, ft, bx, hbC⟩ := lL (r := rT) (s := sT) hrow hnT
  replace hnT := ae hnT; replace st := st.adv hbn0; replace st := (st.adv hbC).box bx; clear hbn0 hrow hbC bx; go_upto_region 21 with (first | rw [hAw.out] | rw [hYw.out] | fail)
  try rw [hYw.out]
  rw [hCw.out]; clear t0 t1 t2 ft hAw hCw hYw; have hcc := EX yw15 a len cap (st.1.2.2.2.2.2.2.2.2.2.1); go_wp2_with fail; refine hcc.mono ?_; rintro e w16 ⟨rU, sU, eU, ⟨hUr, hUs, hUe⟩, aU, cU, rfl, hrow0, hbn0⟩; clear hcc; have hrow := hrow0.read; clear hrow0; obtain ⟨nU, hnU⟩ := ag eU.length; rw [← hnU] at hrow ⊢; obtain ⟨xw16, yw16, YU, hAw, hYw, hCw, t0, t1, t2, ft, bx, hbC⟩ := lL (r := rU) (s := sU) hrow hnU
  replace hnU := ae hnU; replace st := st.adv hbn0; replace st := (st.adv hbC).box bx; clear hbn0 hrow hbC bx; go_upto_region 22 with (first | rw [hAw.out] | rw [hYw.out] | fail)
  try rw [hYw.out]
  rw [hCw.out]; clear t0 t1 t2 ft hAw hCw hYw; have hsT : -9223372036854775808 ≤ sT ∧ sT ≤ 9223372036854775807 := by omega
  have hsU : -9223372036854775808 ≤ sU ∧ sU ≤ 9223372036854775807 := by omega
  obtain ⟨FT, hFT⟩ := ag (ql rT sT eT); obtain ⟨FU, hFU⟩ := ag (oW rU sU eU); have hFTT : (FT == FT) = true := by simp
  have hFUU : (FU == FU) = true := by simp
  replace hFT := ae hFT; replace hFU := ae hFU
  cases NB with
  | true =>
   have hTt := (by first | exact hT1.out rfl | exact hT1.out trivial | exact hT1.out : ql NR NS NE = true)
   have hWt := (by first | exact hW1.out rfl | exact hW1.out trivial | exact hW1.out : oW NR NS WL = true)
   replace hTt := ae hTt; replace hWt := ae hWt; clear hT1 hW1; replace hNB := ae hNB.out; go_upto_region 22 with fail
   go_wp2; obtain ⟨wdc, hwd⟩ := ag yw16.drew; have hbn : Below yw16.heap.size yw16 wdc := by rw [hwd]; exact bf (Below.refl _ _) 1
   have hwwdc := ae hwd.symm; replace hwd := ae hwd; replace st := st.adv hbn; clear hbn; obtain ⟨c0A, c1A, c2A⟩ := (st.1.2.2.2.2.2.2.1).c; obtain ⟨c0X, c1X, c2X⟩ := (st.1.2.2.2.2.2.1).c; obtain ⟨c0Y, c1Y, c2Y⟩ := (st.1.2.2.2.2.1).c; obtain ⟨c0P, c1P, c2P⟩ := (st.1.2.2.2.1).c; obtain ⟨c0Q, c1Q, c2Q⟩ := (st.1.2.2.1).c; obtain ⟨c0T, c1T, c2T⟩ := (st.1.2.1).c; obtain ⟨c0U, c1U, c2U⟩ := (st.1.1).c; refine bV (fun _ _ d _ _ h => by cases d <;> exact h) (fun Q' hnorm hpan => ?_)
   refine wp_region_held_drew (S := (fun W0 => W0.cell? ⟨YA, 0, none⟩ = some (.int .i64 rA) ∧ W0.cell? ⟨YA, 1, none⟩ = some (.int .i64 sA) ∧ W0.cell? ⟨YA, 2, none⟩ = some (.slice aA nA cA) ∧ W0.cell? ⟨YX, 0, none⟩ = some (.int .i64 NR) ∧ W0.cell? ⟨YX, 1, none⟩ = some (.int .i64 NS) ∧ W0.cell? ⟨YX, 2, none⟩ = some (.slice aX nX cX) ∧ W0.cell? ⟨YY, 0, none⟩ = some (.int .i64 NR) ∧ W0.cell? ⟨YY, 1, none⟩ = some (.int .i64 NS) ∧ W0.cell? ⟨YY, 2, none⟩ = some (.slice aY nY cY) ∧ W0.cell? ⟨YP, 0, none⟩ = some (.int .i64 NR) ∧ W0.cell? ⟨YP, 1, none⟩ = some (.int .i64 NS) ∧ W0.cell? ⟨YP, 2, none⟩ = some (.slice aP nP cP) ∧ W0.cell? ⟨YQ, 0, none⟩ = some (.int .i64 NR) ∧ W0.cell? ⟨YQ, 1, none⟩ = some (.int .i64 NS) ∧ W0.cell? ⟨YQ, 2, none⟩ = some (.slice aQ nQ cQ) ∧ W0.cell? ⟨YT, 0, none⟩ = some (.int .i64 rT) ∧ W0.cell? ⟨YT, 1, none⟩ = some (.int .i64 sT) ∧ W0.cell? ⟨YT, 2, none⟩ = some (.slice aT nT cT) ∧ W0.cell? ⟨YU, 0, none⟩ = some (.int .i64 rU) ∧ W0.cell? ⟨YU, 1, none⟩ = some (.int .i64 sU) ∧ W0.cell? ⟨YU, 2, none⟩ = some (.slice aU nU cU))) (by kernel_rfl) ?_ (fun hHeld => ?_)
   · try dsimp only
     (try rw [hwwdc.out]); ((repeat' apply And.intro) <;> with_reducible assumption)
   rw [hwwdc.out] at hHeld ⊢; refine tk 0 117 ?_; refine tk 1 118 ?_; refine tk 3 120 ?_; refine tk 4 121 ?_; refine rd 2 (fun K hK => ?_)
   rw [if_pos (by rfl)]
   go_simp; have hcc := vk wdc rA sA (.slice aA nA cA) eA (.slice vaB nB vcB) zB st.1.2.2.2.2.2.2.1.rd (st.1.2.2.2.2.2.2.2.1) hBi.out (by omega) hBs.out
   rw [← hCA.out] at hcc; refine hcc.mono ?_; rintro e w18 ⟨rfl, hbn⟩; clear hcc; clear c0A c1A c2A c0X c1X c2X c0Y c1Y c2Y c0P c1P c2P c0Q c1Q c2Q c0T c1T c2T c0U c1U c2U; replace st := st.adv hbn; clear hbn; obtain ⟨c0A, c1A, c2A⟩ := (st.1.2.2.2.2.2.2.1).c; obtain ⟨c0X, c1X, c2X⟩ := (st.1.2.2.2.2.2.1).c; obtain ⟨c0Y, c1Y, c2Y⟩ := (st.1.2.2.2.2.1).c; obtain ⟨c0P, c1P, c2P⟩ := (st.1.2.2.2.1).c; obtain ⟨c0Q, c1Q, c2Q⟩ := (st.1.2.2.1).c
   obtain ⟨c0T, c1T, c2T⟩ := (st.1.2.1).c; obtain ⟨c0U, c1U, c2U⟩ := (st.1.1).c; refine hK.out _ _ ?_ (fun hHeld => ?_)
   · try dsimp only
     (try rw [hwwdc.out]); ((repeat' apply And.intro) <;> with_reducible assumption)
   clear hK; try simp only [Act.put, aJ, aH, aI]
   refine rd 5 (fun K hK => ?_)
   rw [if_pos (by rfl)]
   go_simp; have hcc := vJ w18 rA sA (.slice aA nA cA) eA (.slice vaB nB vcB) zB st.1.2.2.2.2.2.2.1.rd (st.1.2.2.2.2.2.2.2.1) hsA hBi.out (by omega) hBs.out
   rw [← hCA.out] at hcc; refine hcc.mono ?_; rintro e w19 ⟨rfl, hbn⟩; clear hcc; clear c0A c1A c2A c0X c1X c2X c0Y c1Y c2Y c0P c1P c2P c0Q c1Q c2Q c0T c1T c2T c0U c1U c2U; replace st := st.adv hbn; clear hbn; obtain ⟨c0A, c1A, c2A⟩ := (st.1.2.2.2.2.2.2.1).c; obtain ⟨c0X, c1X, c2X⟩ := (st.1.2.2.2.2.2.1).c; obtain ⟨c0Y, c1Y, c2Y⟩ := (st.1.2.2.2.2.1).c; obtain ⟨c0P, c1P, c2P⟩ := (st.1.2.2.2.1).c; obtain ⟨c0Q, c1Q, c2Q⟩ := (st.1.2.2.1).c
   obtain ⟨c0T, c1T, c2T⟩ := (st.1.2.1).c; obtain ⟨c0U, c1U, c2U⟩ := (st.1.1).c; refine hK.out _ _ ?_ (fun hHeld => ?_)
   · try dsimp only
     (try rw [hwwdc.out]); ((repeat' apply And.intro) <;> with_reducible assumption)
   clear hK; try simp only [Act.put, aJ, aH, aI]
   refine tk 6 123 ?_; try rw [hCC]
   refine tk 7 124 ?_; refine tg 8 125 ?_; refine tg 9 126 ?_; refine tg 10 127 ?_; refine tk 11 128 ?_; refine tk 12 129 ?_; refine tg 13 130 ?_; refine tg 14 131 ?_; refine rd 15 (fun K hK => ?_)
   rw [if_pos (by kernel_rfl)]
   go_simp; have hcc := qU w19 NR NS NR NS (.slice aX nX cX) (.slice aY nY cY) NE NE st.1.2.2.2.2.2.1.rd st.1.2.2.2.2.1.rd (by omega) (by omega)
   rw [o7] at hcc; refine hcc.mono ?_; rintro e w20 ⟨rfl, hbn⟩; clear hcc; clear c0A c1A c2A c0X c1X c2X c0Y c1Y c2Y c0P c1P c2P c0Q c1Q c2Q c0T c1T c2T c0U c1U c2U; replace st := st.adv hbn; clear hbn; obtain ⟨c0A, c1A, c2A⟩ := (st.1.2.2.2.2.2.2.1).c; obtain ⟨c0X, c1X, c2X⟩ := (st.1.2.2.2.2.2.1).c; obtain ⟨c0Y, c1Y, c2Y⟩ := (st.1.2.2.2.2.1).c; obtain ⟨c0P, c1P, c2P⟩ := (st.1.2.2.2.1).c; obtain ⟨c0Q, c1Q, c2Q⟩ := (st.1.2.2.1).c
   obtain ⟨c0T, c1T, c2T⟩ := (st.1.2.1).c; obtain ⟨c0U, c1U, c2U⟩ := (st.1.1).c; refine hK.out _ _ ?_ (fun hHeld => ?_)
   · try dsimp only
     (try rw [hwwdc.out]); ((repeat' apply And.intro) <;> with_reducible assumption)
   clear hK; try simp only [Act.put, aJ, aH, aI]
   refine tk 16 133 ?_; refine tk 17 134 ?_; refine tg 18 135 ?_; refine tg 19 136 ?_; refine tg 20 137 ?_; refine tk 21 138 ?_; refine tk 22 139 ?_; refine tg 23 140 ?_; refine tg 24 141 ?_; refine rd 25 (fun K hK => ?_)
   rw [if_pos (by kernel_rfl)]
   go_simp; have hcc := qU w20 NR NS NR NS (.slice aP nP cP) (.slice aQ nQ cQ) WL WL st.1.2.2.2.1.rd st.1.2.2.1.rd (by omega) (by omega)
   rw [o7] at hcc; refine hcc.mono ?_; rintro e w21 ⟨rfl, hbn⟩; clear hcc; clear c0A c1A c2A c0X c1X c2X c0Y c1Y c2Y c0P c1P c2P c0Q c1Q c2Q c0T c1T c2T c0U c1U c2U; replace st := st.adv hbn; clear hbn; obtain ⟨c0A, c1A, c2A⟩ := (st.1.2.2.2.2.2.2.1).c; obtain ⟨c0X, c1X, c2X⟩ := (st.1.2.2.2.2.2.1).c; obtain ⟨c0Y, c1Y, c2Y⟩ := (st.1.2.2.2.2.1).c; obtain ⟨c0P, c1P, c2P⟩ := (st.1.2.2.2.1).c; obtain ⟨c0Q, c1Q, c2Q⟩ := (st.1.2.2.1).c
   obtain ⟨c0T, c1T, c2T⟩ := (st.1.2.1).c; obtain ⟨c0U, c1U, c2U⟩ := (st.1.1).c; refine hK.out _ _ ?_ (fun hHeld => ?_)
   · try dsimp only
     (try rw [hwwdc.out]); ((repeat' apply And.intro) <;> with_reducible assumption)
   clear hK; try simp only [Act.put, aJ, aH, aI]
   refine tk 26 143 ?_; refine tk 27 144 ?_; refine tg 28 145 ?_; refine tg 29 146 ?_; refine tg 30 147 ?_; refine tg 31 148 ?_; refine rd 32 (fun K hK => ?_)
   rw [if_pos (by kernel_rfl)]
   go_simp; have hcc := rZ w21 NR NS (.slice aY nY cY) NE st.1.2.2.2.2.1.rd (by omega)
   rw [hTt.out] at hcc; refine hcc.mono ?_; rintro e w22 ⟨rfl, hbn⟩; clear hcc; clear c0A c1A c2A c0X c1X c2X c0Y c1Y c2Y c0P c1P c2P c0Q c1Q c2Q c0T c1T c2T c0U c1U c2U; replace st := st.adv hbn; clear hbn; obtain ⟨c0A, c1A, c2A⟩ := (st.1.2.2.2.2.2.2.1).c; obtain ⟨c0X, c1X, c2X⟩ := (st.1.2.2.2.2.2.1).c; obtain ⟨c0Y, c1Y, c2Y⟩ := (st.1.2.2.2.2.1).c; obtain ⟨c0P, c1P, c2P⟩ := (st.1.2.2.2.1).c; obtain ⟨c0Q, c1Q, c2Q⟩ := (st.1.2.2.1).c
   obtain ⟨c0T, c1T, c2T⟩ := (st.1.2.1).c; obtain ⟨c0U, c1U, c2U⟩ := (st.1.1).c; refine hK.out _ _ ?_ (fun hHeld => ?_)
   · try dsimp only
     (try rw [hwwdc.out]); ((repeat' apply And.intro) <;> with_reducible assumption)
   clear hK; try simp only [Act.put, aJ, aH, aI]
   refine tg 33 150 ?_; refine tk 34 151 ?_; refine tk 35 152 ?_; refine tg 36 153 ?_; refine tg 37 154 ?_; refine tg 38 155 ?_; refine tg 39 156 ?_; refine rd 40 (fun K hK => ?_)
   rw [if_pos (by kernel_rfl)]
   go_simp; have hcc := qh w22 NR NS (.slice aQ nQ cQ) WL st.1.2.2.1.rd (by omega)
   rw [hWt.out] at hcc; refine hcc.mono ?_; rintro e w23 ⟨rfl, hbn⟩; clear hcc; clear c0A c1A c2A c0X c1X c2X c0Y c1Y c2Y c0P c1P c2P c0Q c1Q c2Q c0T c1T c2T c0U c1U c2U; replace st := st.adv hbn; clear hbn; obtain ⟨c0A, c1A, c2A⟩ := (st.1.2.2.2.2.2.2.1).c; obtain ⟨c0X, c1X, c2X⟩ := (st.1.2.2.2.2.2.1).c; obtain ⟨c0Y, c1Y, c2Y⟩ := (st.1.2.2.2.2.1).c; obtain ⟨c0P, c1P, c2P⟩ := (st.1.2.2.2.1).c; obtain ⟨c0Q, c1Q, c2Q⟩ := (st.1.2.2.1).c
   obtain ⟨c0T, c1T, c2T⟩ := (st.1.2.1).c; obtain ⟨c0U, c1U, c2U⟩ := (st.1.1).c; refine hK.out _ _ ?_ (fun hHeld => ?_)
   · try dsimp only
     (try rw [hwwdc.out]); ((repeat' apply And.intro) <;> with_reducible assumption)
   clear hK; try simp only [Act.put, aJ, aH, aI]
   refine tg 41 158 ?_; refine tk 42 159 ?_; refine tk 43 160 ?_; refine tg 44 161 ?_; refine tg 46 163 ?_; refine rd 45 (fun K hK => ?_)
   rw [if_pos (by kernel_rfl)]
   go_simp; have hcc := rZ w23 rT sT (.slice aT nT cT) eT st.1.2.1.rd (by omega)
   rw [← hFT.out] at hcc; refine hcc.mono ?_; rintro e w24 ⟨rfl, hbn⟩; clear hcc; clear c0A c1A c2A c0X c1X c2X c0Y c1Y c2Y c0P c1P c2P c0Q c1Q c2Q c0T c1T c2T c0U c1U c2U; replace st := st.adv hbn; clear hbn; obtain ⟨c0A, c1A, c2A⟩ := (st.1.2.2.2.2.2.2.1).c; obtain ⟨c0X, c1X, c2X⟩ := (st.1.2.2.2.2.2.1).c; obtain ⟨c0Y, c1Y, c2Y⟩ := (st.1.2.2.2.2.1).c; obtain ⟨c0P, c1P, c2P⟩ := (st.1.2.2.2.1).c; obtain ⟨c0Q, c1Q, c2Q⟩ := (st.1.2.2.1).c
   obtain ⟨c0T, c1T, c2T⟩ := (st.1.2.1).c; obtain ⟨c0U, c1U, c2U⟩ := (st.1.1).c; refine hK.out _ _ ?_ (fun hHeld => ?_)
   · try dsimp only
     (try rw [hwwdc.out]); ((repeat' apply And.intro) <;> with_reducible assumption)
   clear hK; try simp only [Act.put, aJ, aH, aI]
   refine rd 47 (fun K hK => ?_)
   rw [if_pos (by kernel_rfl)]
   go_simp; have hcc := xu w24 rT sT (.slice aT nT cT) eT st.1.2.1.rd hsT (by omega)
   rw [← hFT.out] at hcc; refine hcc.mono ?_; rintro e w25 ⟨rfl, hbn⟩; clear hcc; clear c0A c1A c2A c0X c1X c2X c0Y c1Y c2Y c0P c1P c2P c0Q c1Q c2Q c0T c1T c2T c0U c1U c2U; replace st := st.adv hbn; clear hbn; obtain ⟨c0A, c1A, c2A⟩ := (st.1.2.2.2.2.2.2.1).c; obtain ⟨c0X, c1X, c2X⟩ := (st.1.2.2.2.2.2.1).c; obtain ⟨c0Y, c1Y, c2Y⟩ := (st.1.2.2.2.2.1).c; obtain ⟨c0P, c1P, c2P⟩ := (st.1.2.2.2.1).c; obtain ⟨c0Q, c1Q, c2Q⟩ := (st.1.2.2.1).c
   obtain ⟨c0T, c1T, c2T⟩ := (st.1.2.1).c; obtain ⟨c0U, c1U, c2U⟩ := (st.1.1).c; refine hK.out _ _ ?_ (fun hHeld => ?_)
   · try dsimp only
     (try rw [hwwdc.out]); ((repeat' apply And.intro) <;> with_reducible assumption)
   clear hK; try simp only [Act.put, aJ, aH, aI]
   refine tg 48 165 ?_; try rw [hFTT]
   refine tk 49 166 ?_; refine tk 50 167 ?_; refine tg 51 168 ?_; refine tg 53 170 ?_; refine rd 52 (fun K hK => ?_)
   rw [if_pos (by kernel_rfl)]
   go_simp; have hcc := qh w25 rU sU (.slice aU nU cU) eU st.1.1.rd (by omega)
   rw [← hFU.out] at hcc; refine hcc.mono ?_; rintro e w26 ⟨rfl, hbn⟩; clear hcc; clear c0A c1A c2A c0X c1X c2X c0Y c1Y c2Y c0P c1P c2P c0Q c1Q c2Q c0T c1T c2T c0U c1U c2U; replace st := st.adv hbn; clear hbn; obtain ⟨c0A, c1A, c2A⟩ := (st.1.2.2.2.2.2.2.1).c; obtain ⟨c0X, c1X, c2X⟩ := (st.1.2.2.2.2.2.1).c; obtain ⟨c0Y, c1Y, c2Y⟩ := (st.1.2.2.2.2.1).c; obtain ⟨c0P, c1P, c2P⟩ := (st.1.2.2.2.1).c; obtain ⟨c0Q, c1Q, c2Q⟩ := (st.1.2.2.1).c
   obtain ⟨c0T, c1T, c2T⟩ := (st.1.2.1).c; obtain ⟨c0U, c1U, c2U⟩ := (st.1.1).c; refine hK.out _ _ ?_ (fun hHeld => ?_)
   · try dsimp only
     (try rw [hwwdc.out]); ((repeat' apply And.intro) <;> with_reducible assumption)
   clear hK; try simp only [Act.put, aJ, aH, aI]
   refine rd 54 (fun K hK => ?_)
   rw [if_pos (by kernel_rfl)]
   go_simp; have hcc := vg w26 rU sU (.slice aU nU cU) eU st.1.1.rd hsU (by omega)
   rw [← hFU.out] at hcc; refine hcc.mono ?_; rintro e w27 ⟨rfl, hbn⟩; clear hcc; clear c0A c1A c2A c0X c1X c2X c0Y c1Y c2Y c0P c1P c2P c0Q c1Q c2Q c0T c1T c2T c0U c1U c2U; replace st := st.adv hbn; clear hbn; obtain ⟨c0A, c1A, c2A⟩ := (st.1.2.2.2.2.2.2.1).c; obtain ⟨c0X, c1X, c2X⟩ := (st.1.2.2.2.2.2.1).c; obtain ⟨c0Y, c1Y, c2Y⟩ := (st.1.2.2.2.2.1).c; obtain ⟨c0P, c1P, c2P⟩ := (st.1.2.2.2.1).c; obtain ⟨c0Q, c1Q, c2Q⟩ := (st.1.2.2.1).c
   obtain ⟨c0T, c1T, c2T⟩ := (st.1.2.1).c; obtain ⟨c0U, c1U, c2U⟩ := (st.1.1).c; refine hK.out _ _ ?_ (fun hHeld => ?_)
   · try dsimp only
     (try rw [hwwdc.out]); ((repeat' apply And.intro) <;> with_reducible assumption)
   clear hK; try simp only [Act.put, aJ, aH, aI]
   refine tg 55 172 ?_; try rw [hFUU]
   refine tk 56 173 ?_; refine tk 57 2 ?_; refine wpAnyH_done (by kernel_rfl) ?_ _
   refine hnorm _ _ ?_; clear hnorm hpan; repeat clear hHeld
   try simp only [Exit.then]
   clear c0A c1A c2A c0X c1X c2X c0Y c1Y c2Y c0P c1P c2P c0Q c1Q c2Q c0T c1T c2T c0U c1U c2U; go_wp2; go_ret; exact ⟨rfl, st.1.2.2.2.2.2.2.2.2.2.2.2⟩
  | false =>
   clear hT1 hW1; replace hNB := ae hNB.out; go_upto_region 22 with fail
   go_wp2; obtain ⟨wdc, hwd⟩ := ag yw16.drew; have hbn : Below yw16.heap.size yw16 wdc := by rw [hwd]; exact bf (Below.refl _ _) 1
   have hwwdc := ae hwd.symm; replace hwd := ae hwd; replace st := st.adv hbn; clear hbn; obtain ⟨c0A, c1A, c2A⟩ := (st.1.2.2.2.2.2.2.1).c; obtain ⟨c0X, c1X, c2X⟩ := (st.1.2.2.2.2.2.1).c; obtain ⟨c0Y, c1Y, c2Y⟩ := (st.1.2.2.2.2.1).c; obtain ⟨c0P, c1P, c2P⟩ := (st.1.2.2.2.1).c; obtain ⟨c0Q, c1Q, c2Q⟩ := (st.1.2.2.1).c; obtain ⟨c0T, c1T, c2T⟩ := (st.1.2.1).c; obtain ⟨c0U, c1U, c2U⟩ := (st.1.1).c; refine bV (fun _ _ d _ _ h => by cases d <;> exact h) (fun Q' hnorm hpan => ?_)
   refine wp_region_held_drew (S := (fun W0 => W0.cell? ⟨YA, 0, none⟩ = some (.int .i64 rA) ∧ W0.cell? ⟨YA, 1, none⟩ = some (.int .i64 sA) ∧ W0.cell? ⟨YA, 2, none⟩ = some (.slice aA nA cA) ∧ W0.cell? ⟨YX, 0, none⟩ = some (.int .i64 NR) ∧ W0.cell? ⟨YX, 1, none⟩ = some (.int .i64 NS) ∧ W0.cell? ⟨YX, 2, none⟩ = some (.slice aX nX cX) ∧ W0.cell? ⟨YY, 0, none⟩ = some (.int .i64 NR) ∧ W0.cell? ⟨YY, 1, none⟩ = some (.int .i64 NS) ∧ W0.cell? ⟨YY, 2, none⟩ = some (.slice aY nY cY) ∧ W0.cell? ⟨YP, 0, none⟩ = some (.int .i64 NR) ∧ W0.cell? ⟨YP, 1, none⟩ = some (.int .i64 NS) ∧ W0.cell? ⟨YP, 2, none⟩ = some (.slice aP nP cP) ∧ W0.cell? ⟨YQ, 0, none⟩ = some (.int .i64 NR) ∧ W0.cell? ⟨YQ, 1, none⟩ = some (.int .i64 NS) ∧ W0.cell? ⟨YQ, 2, none⟩ = some (.slice aQ nQ cQ) ∧ W0.cell? ⟨YT, 0, none⟩ = some (.int .i64 rT) ∧ W0.cell? ⟨YT, 1, none⟩ = some (.int .i64 sT) ∧ W0.cell? ⟨YT, 2, none⟩ = some (.slice aT nT cT) ∧ W0.cell? ⟨YU, 0, none⟩ = some (.int .i64 rU) ∧ W0.cell? ⟨YU, 1, none⟩ = some (.int .i64 sU) ∧ W0.cell? ⟨YU, 2, none⟩ = some (.slice aU nU cU))) (by kernel_rfl) ?_ (fun hHeld => ?_)
   · try dsimp only
     (try rw [hwwdc.out]); ((repeat' apply And.intro) <;> with_reducible assumption)
   rw [hwwdc.out] at hHeld ⊢; refine tk 0 117 ?_; refine tk 1 118 ?_; refine tk 3 120 ?_; refine tk 4 121 ?_; refine rd 2 (fun K hK => ?_)
   rw [if_pos (by rfl)]
   go_simp; have hcc := vk wdc rA sA (.slice aA nA cA) eA (.slice vaB nB vcB) zB st.1.2.2.2.2.2.2.1.rd (st.1.2.2.2.2.2.2.2.1) hBi.out (by omega) hBs.out
   rw [← hCA.out] at hcc; refine hcc.mono ?_; rintro e w18 ⟨rfl, hbn⟩; clear hcc; clear c0A c1A c2A c0X c1X c2X c0Y c1Y c2Y c0P c1P c2P c0Q c1Q c2Q c0T c1T c2T c0U c1U c2U; replace st := st.adv hbn; clear hbn; obtain ⟨c0A, c1A, c2A⟩ := (st.1.2.2.2.2.2.2.1).c; obtain ⟨c0X, c1X, c2X⟩ := (st.1.2.2.2.2.2.1).c; obtain ⟨c0Y, c1Y, c2Y⟩ := (st.1.2.2.2.2.1).c; obtain ⟨c0P, c1P, c2P⟩ := (st.1.2.2.2.1).c; obtain ⟨c0Q, c1Q, c2Q⟩ := (st.1.2.2.1).c
   obtain ⟨c0T, c1T, c2T⟩ := (st.1.2.1).c; obtain ⟨c0U, c1U, c2U⟩ := (st.1.1).c; refine hK.out _ _ ?_ (fun hHeld => ?_)
   · try dsimp only
     (try rw [hwwdc.out]); ((repeat' apply And.intro) <;> with_reducible assumption)
   clear hK; try simp only [Act.put, aJ, aH, aI]
   refine rd 5 (fun K hK => ?_)
   rw [if_pos (by rfl)]
   go_simp; have hcc := vJ w18 rA sA (.slice aA nA cA) eA (.slice vaB nB vcB) zB st.1.2.2.2.2.2.2.1.rd (st.1.2.2.2.2.2.2.2.1) hsA hBi.out (by omega) hBs.out
   rw [← hCA.out] at hcc; refine hcc.mono ?_; rintro e w19 ⟨rfl, hbn⟩; clear hcc; clear c0A c1A c2A c0X c1X c2X c0Y c1Y c2Y c0P c1P c2P c0Q c1Q c2Q c0T c1T c2T c0U c1U c2U; replace st := st.adv hbn; clear hbn; obtain ⟨c0A, c1A, c2A⟩ := (st.1.2.2.2.2.2.2.1).c; obtain ⟨c0X, c1X, c2X⟩ := (st.1.2.2.2.2.2.1).c; obtain ⟨c0Y, c1Y, c2Y⟩ := (st.1.2.2.2.2.1).c; obtain ⟨c0P, c1P, c2P⟩ := (st.1.2.2.2.1).c; obtain ⟨c0Q, c1Q, c2Q⟩ := (st.1.2.2.1).c
   obtain ⟨c0T, c1T, c2T⟩ := (st.1.2.1).c; obtain ⟨c0U, c1U, c2U⟩ := (st.1.1).c; refine hK.out _ _ ?_ (fun hHeld => ?_)
   · try dsimp only
     (try rw [hwwdc.out]); ((repeat' apply And.intro) <;> with_reducible assumption)
   clear hK; try simp only [Act.put, aJ, aH, aI]
   refine tk 6 123 ?_; try rw [hCC]
   refine tk 7 124 ?_; refine tg 8 125 ?_; refine tg 9 126 ?_; refine tg 10 127 ?_; refine tk 11 128 ?_; refine tk 12 129 ?_; refine tg 13 130 ?_; refine tg 14 131 ?_; refine rd 15 (fun K hK => ?_)
   rw [if_pos (by kernel_rfl)]
   go_simp; have hcc := qU w19 NR NS NR NS (.slice aX nX cX) (.slice aY nY cY) NE NE st.1.2.2.2.2.2.1.rd st.1.2.2.2.2.1.rd (by omega) (by omega)
   rw [o7] at hcc; refine hcc.mono ?_; rintro e w20 ⟨rfl, hbn⟩; clear hcc; clear c0A c1A c2A c0X c1X c2X c0Y c1Y c2Y c0P c1P c2P c0Q c1Q c2Q c0T c1T c2T c0U c1U c2U; replace st := st.adv hbn; clear hbn; obtain ⟨c0A, c1A, c2A⟩ := (st.1.2.2.2.2.2.2.1).c; obtain ⟨c0X, c1X, c2X⟩ := (st.1.2.2.2.2.2.1).c; obtain ⟨c0Y, c1Y, c2Y⟩ := (st.1.2.2.2.2.1).c; obtain ⟨c0P, c1P, c2P⟩ := (st.1.2.2.2.1).c; obtain ⟨c0Q, c1Q, c2Q⟩ := (st.1.2.2.1).c
   obtain ⟨c0T, c1T, c2T⟩ := (st.1.2.1).c; obtain ⟨c0U, c1U, c2U⟩ := (st.1.1).c; refine hK.out _ _ ?_ (fun hHeld => ?_)
   · try dsimp only
     (try rw [hwwdc.out]); ((repeat' apply And.intro) <;> with_reducible assumption)
   clear hK; try simp only [Act.put, aJ, aH, aI]
   refine tk 16 133 ?_; refine tk 17 134 ?_; refine tg 18 135 ?_; refine tg 19 136 ?_; refine tg 20 137 ?_; refine tk 21 138 ?_; refine tk 22 139 ?_; refine tg 23 140 ?_; refine tg 24 141 ?_; refine rd 25 (fun K hK => ?_)
   rw [if_pos (by kernel_rfl)]
   go_simp; have hcc := qU w20 NR NS NR NS (.slice aP nP cP) (.slice aQ nQ cQ) WL WL st.1.2.2.2.1.rd st.1.2.2.1.rd (by omega) (by omega)
   rw [o7] at hcc; refine hcc.mono ?_; rintro e w21 ⟨rfl, hbn⟩; clear hcc; clear c0A c1A c2A c0X c1X c2X c0Y c1Y c2Y c0P c1P c2P c0Q c1Q c2Q c0T c1T c2T c0U c1U c2U; replace st := st.adv hbn; clear hbn; obtain ⟨c0A, c1A, c2A⟩ := (st.1.2.2.2.2.2.2.1).c; obtain ⟨c0X, c1X, c2X⟩ := (st.1.2.2.2.2.2.1).c; obtain ⟨c0Y, c1Y, c2Y⟩ := (st.1.2.2.2.2.1).c; obtain ⟨c0P, c1P, c2P⟩ := (st.1.2.2.2.1).c; obtain ⟨c0Q, c1Q, c2Q⟩ := (st.1.2.2.1).c
   obtain ⟨c0T, c1T, c2T⟩ := (st.1.2.1).c; obtain ⟨c0U, c1U, c2U⟩ := (st.1.1).c; refine hK.out _ _ ?_ (fun hHeld => ?_)
   · try dsimp only
     (try rw [hwwdc.out]); ((repeat' apply And.intro) <;> with_reducible assumption)
   clear hK; try simp only [Act.put, aJ, aH, aI]
   refine tk 26 143 ?_; refine tk 27 144 ?_; refine tg 28 145 ?_; refine tg 29 146 ?_; refine tg 30 147 ?_; refine tn 31 148 ?_; refine tn 32 149 ?_; refine tg 33 150 ?_; refine tk 34 151 ?_; refine tk 35 152 ?_; refine tg 36 153 ?_; refine tg 37 154 ?_; refine tg 38 155 ?_; refine tn 39 156 ?_; refine tn 40 157 ?_; refine tg 41 158 ?_; refine tk 42 159 ?_; refine tk 43 160 ?_; refine tg 44 161 ?_
   refine tg 46 163 ?_; refine rd 45 (fun K hK => ?_)
   rw [if_pos (by kernel_rfl)]
   go_simp; have hcc := rZ w21 rT sT (.slice aT nT cT) eT st.1.2.1.rd (by omega)
   rw [← hFT.out] at hcc; refine hcc.mono ?_; rintro e w22 ⟨rfl, hbn⟩; clear hcc; clear c0A c1A c2A c0X c1X c2X c0Y c1Y c2Y c0P c1P c2P c0Q c1Q c2Q c0T c1T c2T c0U c1U c2U; replace st := st.adv hbn; clear hbn; obtain ⟨c0A, c1A, c2A⟩ := (st.1.2.2.2.2.2.2.1).c; obtain ⟨c0X, c1X, c2X⟩ := (st.1.2.2.2.2.2.1).c; obtain ⟨c0Y, c1Y, c2Y⟩ := (st.1.2.2.2.2.1).c; obtain ⟨c0P, c1P, c2P⟩ := (st.1.2.2.2.1).c; obtain ⟨c0Q, c1Q, c2Q⟩ := (st.1.2.2.1).c
   obtain ⟨c0T, c1T, c2T⟩ := (st.1.2.1).c; obtain ⟨c0U, c1U, c2U⟩ := (st.1.1).c; refine hK.out _ _ ?_ (fun hHeld => ?_)
   · try dsimp only
     (try rw [hwwdc.out]); ((repeat' apply And.intro) <;> with_reducible assumption)
   clear hK; try simp only [Act.put, aJ, aH, aI]
   refine rd 47 (fun K hK => ?_)
   rw [if_pos (by kernel_rfl)]
   go_simp; have hcc := xu w22 rT sT (.slice aT nT cT) eT st.1.2.1.rd hsT (by omega)
   rw [← hFT.out] at hcc; refine hcc.mono ?_; rintro e w23 ⟨rfl, hbn⟩; clear hcc; clear c0A c1A c2A c0X c1X c2X c0Y c1Y c2Y c0P c1P c2P c0Q c1Q c2Q c0T c1T c2T c0U c1U c2U; replace st := st.adv hbn; clear hbn; obtain ⟨c0A, c1A, c2A⟩ := (st.1.2.2.2.2.2.2.1).c; obtain ⟨c0X, c1X, c2X⟩ := (st.1.2.2.2.2.2.1).c; obtain ⟨c0Y, c1Y, c2Y⟩ := (st.1.2.2.2.2.1).c; obtain ⟨c0P, c1P, c2P⟩ := (st.1.2.2.2.1).c; obtain ⟨c0Q, c1Q, c2Q⟩ := (st.1.2.2.1).c
   obtain ⟨c0T, c1T, c2T⟩ := (st.1.2.1).c; obtain ⟨c0U, c1U, c2U⟩ := (st.1.1).c; refine hK.out _ _ ?_ (fun hHeld => ?_)
   · try dsimp only
     (try rw [hwwdc.out]); ((repeat' apply And.intro) <;> with_reducible assumption)
   clear hK; try simp only [Act.put, aJ, aH, aI]
   refine tg 48 165 ?_; try rw [hFTT]
   refine tk 49 166 ?_; refine tk 50 167 ?_; refine tg 51 168 ?_; refine tg 53 170 ?_; refine rd 52 (fun K hK => ?_)
   rw [if_pos (by kernel_rfl)]
   go_simp; have hcc := qh w23 rU sU (.slice aU nU cU) eU st.1.1.rd (by omega)
   rw [← hFU.out] at hcc; refine hcc.mono ?_; rintro e w24 ⟨rfl, hbn⟩; clear hcc; clear c0A c1A c2A c0X c1X c2X c0Y c1Y c2Y c0P c1P c2P c0Q c1Q c2Q c0T c1T c2T c0U c1U c2U; replace st := st.adv hbn; clear hbn; obtain ⟨c0A, c1A, c2A⟩ := (st.1.2.2.2.2.2.2.1).c; obtain ⟨c0X, c1X, c2X⟩ := (st.1.2.2.2.2.2.1).c; obtain ⟨c0Y, c1Y, c2Y⟩ := (st.1.2.2.2.2.1).c; obtain ⟨c0P, c1P, c2P⟩ := (st.1.2.2.2.1).c; obtain ⟨c0Q, c1Q, c2Q⟩ := (st.1.2.2.1).c
   obtain ⟨c0T, c1T, c2T⟩ := (st.1.2.1).c; obtain ⟨c0U, c1U, c2U⟩ := (st.1.1).c; refine hK.out _ _ ?_ (fun hHeld => ?_)
   · try dsimp only
     (try rw [hwwdc.out]); ((repeat' apply And.intro) <;> with_reducible assumption)
   clear hK; try simp only [Act.put, aJ, aH, aI]
   refine rd 54 (fun K hK => ?_)
   rw [if_pos (by kernel_rfl)]
   go_simp; have hcc := vg w24 rU sU (.slice aU nU cU) eU st.1.1.rd hsU (by omega)
   rw [← hFU.out] at hcc; refine hcc.mono ?_; rintro e w25 ⟨rfl, hbn⟩; clear hcc; clear c0A c1A c2A c0X c1X c2X c0Y c1Y c2Y c0P c1P c2P c0Q c1Q c2Q c0T c1T c2T c0U c1U c2U; replace st := st.adv hbn; clear hbn; obtain ⟨c0A, c1A, c2A⟩ := (st.1.2.2.2.2.2.2.1).c; obtain ⟨c0X, c1X, c2X⟩ := (st.1.2.2.2.2.2.1).c; obtain ⟨c0Y, c1Y, c2Y⟩ := (st.1.2.2.2.2.1).c; obtain ⟨c0P, c1P, c2P⟩ := (st.1.2.2.2.1).c; obtain ⟨c0Q, c1Q, c2Q⟩ := (st.1.2.2.1).c
   obtain ⟨c0T, c1T, c2T⟩ := (st.1.2.1).c; obtain ⟨c0U, c1U, c2U⟩ := (st.1.1).c; refine hK.out _ _ ?_ (fun hHeld => ?_)
   · try dsimp only
     (try rw [hwwdc.out]); ((repeat' apply And.intro) <;> with_reducible assumption)
   clear hK; try simp only [Act.put, aJ, aH, aI]
   refine tg 55 172 ?_; try rw [hFUU]
   refine tk 56 173 ?_; refine tk 57 2 ?_; refine wpAnyH_done (by kernel_rfl) ?_ _
   refine hnorm _ _ ?_; clear hnorm hpan; repeat clear hHeld
   try simp only [Exit.then]
   clear c0A c1A c2A c0X c1X c2X c0Y c1Y c2Y c0P c1P c2P c0Q c1Q c2Q c0T c1T c2T c0U c1U c2U; go_wp2; go_ret; exact ⟨rfl, st.1.2.2.2.2.2.2.2.2.2.2.2⟩
set_option maxHeartbeats 3200000 in
set_option maxRecDepth 100000 in
theorem walk (W : World) (a0 : Option Addr) (len0 cap0 : Nat) (z0 : List Int) (w0 : pO .u8 W a0 len0 cap0 z0) :
 Calls Tryz.prog 4 #[.slice a0 len0 cap0] W fun e w' => e = .returned (.bool true) ∧ Below W.heap.size W w' := by
 by_cases hbig : 1048576 < len0
 · go_enter Tryz.func4, Tryz.ntmps4
   go_wp2_with fail; refine (LH _ a0 len0 cap0 hbig).mono ?_; rintro e w1 ⟨rfl, rfl⟩; go_wp2_with fail; go_ret; exact ⟨rfl, Below.refl _ _⟩
 · exact walk0 W a0 len0 cap0 (EC w0 (by omega)) (Lt w0)
set_option maxRecDepth 100000 in
theorem lifted (os : Os) (started : os.Started) (H : Type) (enc : TypeId × Value → H) :
 ReturnsInHanded {} Tryz.checked os 4 .any (Rows.fnMembersSpec.pre6 enc Tryz.prog Tryz.f4 Rows.fnMembersRow.domain false) (Rows.fnMembersSpec.post enc Tryz.prog Tryz.f4 false true false false) := by
 refine returnsInHanded_of_change (C := Tryz.checked) own started (by kernel_rfl) Tryz.func4
  (ChangeSpec.witness6 (enc := enc) (C := Tryz.checked) false ⟨#[], #[.slice none 0 0], []⟩ 8 (by kernel_rfl) (by kernel_rfl) (by kernel_rfl) (by kernel_rfl)) ?_
 intro W base args ds gs before hval0 hW hcnd _; have hval : ∀ (j : Nat) t v, Tryz.f4.params[j]? = some t → args[j]? = some v → Value.okWide Tryz.prog W .any base t v := hval0; have hW' := hW; obtain ⟨p, q, hA0, hV, rfl, hfz, hnd⟩ := hW; have hA : DataW.TrodAll enc Tryz.prog W 0 (fun _ => true) true Tryz.f4.params.toList args.toList ds p := hA0
 rw [Tryz.params4] at hA hval; obtain ⟨v0, vs0, d0, ds0, p0, q0, hargs, rfl, rfl, h0, r0⟩ := trodAll_cons hA; obtain ⟨rfl, rfl, rfl⟩ := trodAll_nil r0; obtain rfl : args = #[v0] := by cases args; simp_all
 obtain ⟨rfl, rfl⟩ := trodVars_none hV; obtain ⟨a0, len0, cap0, rfl⟩ := okWide_slice Tryz.underlying22 (hval 0 22 v0 rfl rfl); have k0 := h0; have lt0 : ∀ x ∈ p0, x.block < W.heap.size := by obtain ⟨m, hm⟩ := k0; exact DataW.trod_lt m _ _ _ hm
 obtain ⟨z0, w0⟩ : ∃ zs, pO .u8 W a0 len0 cap0 zs := by
  obtain ⟨fuel, hf⟩ := h0
  rcases open_ints Tryz.underlying22 Tryz.underlying5 (by kernel_rfl) hf with ⟨hcs, _⟩ | ⟨x, l, c, zs, hcs, _, hl, hm, hz, _, hcell, hwz⟩
  · simp [Value.cells] at hcs
    obtain ⟨rfl, rfl, rfl⟩ := hcs; exact ⟨[], .inl ⟨rfl, rfl, rfl, rfl⟩⟩
  · simp [Value.cells] at hcs
    obtain ⟨rfl, rfl, rfl⟩ := hcs; exact ⟨zs, .inr ⟨_, rfl, hl, hm, by simpa using hz, hcell, hwz⟩⟩
 clear hA0 hval0; refine (walk W a0 len0 cap0 z0 w0).mono fun e W' ⟨he, hg⟩ => ?_
 subst he; exact ⟨_, rfl, _, _, _, [], _, [], hW', trodAll_mk1 (shut_bool Tryz.underlying4 _), (trodAll_cons_mk (Below.trod laidOut (by kernel_rfl) (of_decide_eq_true (by kernel_rfl)) k0 hg lt0) trodAll_mk0), rfl, hg.frame _, fun h => by cases h⟩
theorem over : Rows.fnMembersRow.holds Tryz.pinned (OpenSpec.ofChange Rows.fnMembersSpec) :=
 OpenClaim.holds_of_wide 4 Tryz.f4 rfl rfl rfl rfl rfl rfl rfl ⟨rfl, rfl, rfl, rfl, rfl⟩ rfl rfl rfl rfl rfl (by kernel_rfl) Tryz.func4 (by kernel_rfl)
  (of_decide_eq_true (by kernel_rfl)) (by unfold Func.isWrapper; first | (rw [if_pos (by decide +kernel)]; kernel_rfl) | (rw [if_neg (by decide +kernel)]; exact ⟨rfl, rfl⟩))
  (fun os started H enc _ => lifted os started H enc)
theorem proved : Rows.FnMembersSaid := over
#print axioms proved
end Go.Proofs.YtgnomlcjikfdhaaGreat.fnMembers
