/- Drawn cyclic words: the drawers of chapter 3. -/
import Derived.Test.YtcjkgknmpgehbaaDY
namespace Go.Proofs.Ytcjkgknmpgehbaa
open Go.RowKit
set_option linter.unusedVariables false

set_option maxHeartbeats 800000 in
theorem drawCore_any (w : World) (a : Option Addr) (len cap : Nat) (hcode : CodeIn w.heap.size w a len) :
    Calls Try.prog 15 #[.slice a len cap] w (Words1 (Cyc 20) w) := by
  have hnew := new_in w a len cap hcode
  replace hcode := hidI hcode
  go_enter Try.func15, Try.ntmps15
  go_wp2_with fail
  refine hnew.mono ?_
  rintro e w1 ⟨g, rfl, hb1, hd1⟩
  have hany := word3_in hd1
  replace hd1 := hidI hd1
  clear hnew
  go_wp2_with fail
  refine hany.mono ?_
  rintro e w2 ⟨v1, z1, hz1, rfl, hr1, hg2, hd2⟩
  have hr : Words1 (Cyc 20) w (.returned v1) w2 := ⟨v1, z1, hz1, rfl, hr1.read, hb1.trans (hd1.out.below hg2)⟩
  replace hr := hidI hr
  clear hany hz1 hr1 hg2 hd2
  go_wp2
  go_ret
  exact hr.out
set_option maxHeartbeats 800000 in
theorem drawLeast_any (w : World) (a : Option Addr) (len cap : Nat) (hcode : CodeIn w.heap.size w a len) :
    Calls Try.prog 29 #[.slice a len cap] w (Words1 (Cyc 20) w) := by
  have hnew := new_in w a len cap hcode
  replace hcode := hidI hcode
  go_enter Try.func29, Try.ntmps29
  go_wp2_with fail
  refine hnew.mono ?_
  rintro e w1 ⟨g, rfl, hb1, hd1⟩
  have hany := word3_in hd1
  replace hd1 := hidI hd1
  clear hnew
  go_wp2_with fail
  refine hany.mono ?_
  rintro e w2 ⟨v1, z1, hz1, rfl, hr1, hg2, hd2⟩
  have hr : Words1 (Cyc 20) w (.returned v1) w2 := ⟨v1, z1, hz1, rfl, hr1.read, hb1.trans (hd1.out.below hg2)⟩
  replace hr := hidI hr
  clear hany hz1 hr1 hg2 hd2
  go_wp2
  go_ret
  exact hr.out
set_option maxHeartbeats 800000 in
theorem drawRoot_any (w : World) (a : Option Addr) (len cap : Nat) (hcode : CodeIn w.heap.size w a len) :
    Calls Try.prog 35 #[.slice a len cap] w (Words1 (Cyc 20) w) := by
  have hnew := new_in w a len cap hcode
  replace hcode := hidI hcode
  go_enter Try.func35, Try.ntmps35
  go_wp2_with fail
  refine hnew.mono ?_
  rintro e w1 ⟨g, rfl, hb1, hd1⟩
  have hany := word3_in hd1
  replace hd1 := hidI hd1
  clear hnew
  go_wp2_with fail
  refine hany.mono ?_
  rintro e w2 ⟨v1, z1, hz1, rfl, hr1, hg2, hd2⟩
  have hr : Words1 (Cyc 20) w (.returned v1) w2 := ⟨v1, z1, hz1, rfl, hr1.read, hb1.trans (hd1.out.below hg2)⟩
  replace hr := hidI hr
  clear hany hz1 hr1 hg2 hd2
  go_wp2
  go_ret
  exact hr.out
def RotK (z : List Int) (k : Int) : Prop := Cyc 20 z ∧ -4 ≤ k ∧ k ≤ 7
set_option maxHeartbeats 800000 in
theorem drawRot_any (w : World) (a : Option Addr) (len cap : Nat) (hcode : CodeIn w.heap.size w a len) :
    Calls Try.prog 28 #[.slice a len cap] w (WordRank1 RotK w) := by
  have hnew := new_in w a len cap hcode
  replace hcode := hidI hcode
  go_enter Try.func28, Try.ntmps28
  go_wp2_with fail
  refine hnew.mono ?_
  rintro e w1 ⟨g, rfl, hb1, hd1⟩
  have hlt := hd1.lt
  have hany := word3_in hd1
  replace hd1 := hidI hd1
  clear hnew
  go_wp2_with fail
  refine hany.mono ?_
  rintro e w2 ⟨v1, z1, hz1, rfl, hr1, hg2, hd2⟩
  have hb2 := hb1.trans (hd1.out.below hg2)
  have hbel := below_in hd2 12 12 rfl (by omega) (by omega)
  replace hr1 := hidI hr1
  replace hz1 := hidI hz1
  replace hd2 := hidI hd2
  clear hany hg2 hb1
  go_wp2_with fail
  refine hbel.mono ?_
  rintro e w3 ⟨k, ⟨hk0, hk1⟩, rfl, hg3, hd3⟩
  have hr : WordRank1 RotK w (.returned (.tuple #[v1, .int .i64 (k - 4)])) w3 := ⟨v1, z1, k - 4, ⟨hz1.out, by omega, by omega⟩, rfl, (hr1.out.over hg3 hlt).read, hb2.trans (hd2.out.below hg3)⟩
  replace hr := hidI hr
  clear hbel hg3 hd3 hb2
  go_wp2
  go_ret2
  exact hr.out
set_option maxHeartbeats 1600000 in
theorem drawConj_any (w : World) (a : Option Addr) (len cap : Nat) (hcode : CodeIn w.heap.size w a len) :
    Calls Try.prog 23 #[.slice a len cap] w (Words2 (Cyc 40) w) := by
  have hnew := new_in w a len cap hcode
  replace hcode := hidI hcode
  go_enter Try.func23, Try.ntmps23
  go_wp2_with fail
  refine hnew.mono ?_
  rintro e w1 ⟨g, rfl, hb1, hd1⟩
  have hlt := hd1.lt
  have hany := word3_in hd1
  replace hd1 := hidI hd1
  clear hnew
  go_wp2_with fail
  refine hany.mono ?_
  rintro e w2 ⟨v1, z1, hz1, rfl, hr1, hg2, hd2⟩
  have hb2 := hb1.trans (hd1.out.below hg2)
  have honce := once_in hd2 2 2 rfl (by omega) (by omega)
  replace hr1 := hidI hr1
  replace hz1 := hidI hz1
  replace hd2 := hidI hd2
  clear hany hg2 hb1
  go_wp2_with fail
  refine honce.mono ?_
  rintro e w3 ⟨b, rfl, hg3, hd3⟩
  have hr3 := hidI (hr1.out.over hg3 hlt)
  have hb3 := hb2.trans (hd2.out.below hg3)
  clear honce hg3 hb2 hr1 hd2
  cases b with
  | true =>
    have hof := of_in hd3 2 (by omega) (by omega) 4 4 rfl (by omega)
    replace hd3 := hidI hd3
    go_wp2_with fail
    refine hof.mono ?_
    rintro e w4 ⟨v4, z4, hz4, rfl, hown4, hg4, hd4⟩
    have hr4 := hidI (hr3.out.over hg4 hlt)
    have hb4 := hb3.trans (hd3.out.below hg4)
    have hz1l : z1.length ≤ 20 := hz1.out.2
    have hz4l : z4.length ≤ 4 := hz4.2.2
    have hcon := specCon w4 v1 v4 z1 z4 hr4.out.read ((hown4.row (by omega)).read) (by omega) (by omega)
    have hcc : Cyc 40 (conL z1 z4) := ⟨by unfold conL; exact (((hz4.1.mono (by omega)).inv (by omega)).mul hz1.out.1 (by omega)).mul (hz4.1.mono (by omega)) (by omega), by
      have h1 := mulL_length (invL z4) z1
      have h2 := mulL_length (mulL (invL z4) z1) z4
      have h3 := invL_length z4
      unfold conL
      omega⟩
    replace hcc := hidI hcc
    replace hz4 := hidI hz4
    clear hof hg4 hb3 hown4 hd4 hd3 hr3
    go_wp2_with fail
    refine hcon.mono ?_
    rintro e w5 ⟨v5, rfl, hr5, hb5⟩
    have hr : Words2 (Cyc 40) w (.returned (.tuple #[v1, v5])) w5 := ⟨v1, v5, z1, _, hz1.out.mono (by omega), hcc.out, rfl, ((hr4.out.read.below hb5).mono hb5.size), hr5.read, hb4.trans (hb5.mono hb4.size)⟩
    replace hr := hidI hr
    clear hcon hr5 hb5 hb4 hr4
    go_wp2
    go_ret2
    exact hr.out
  | false =>
    have hany2 := word3_in hd3
    replace hd3 := hidI hd3
    go_wp2_with fail
    refine hany2.mono ?_
    rintro e w4 ⟨v4, z4, hz4, rfl, hr4, hg4, hd4⟩
    have hr : Words2 (Cyc 40) w (.returned (.tuple #[v1, v4])) w4 := ⟨v1, v4, z1, z4, hz1.out.mono (by omega), hz4.mono (by omega), rfl, (hr3.out.over hg4 hlt).read, hr4.read, hb3.trans (hd3.out.below hg4)⟩
    replace hr := hidI hr
    clear hany2 hz4 hr4 hg4 hd4
    go_wp2
    go_ret2
    exact hr.out
set_option maxHeartbeats 1600000 in
theorem drawComm_any (w : World) (a : Option Addr) (len cap : Nat) (hcode : CodeIn w.heap.size w a len) :
    Calls Try.prog 40 #[.slice a len cap] w (Words2 (Cyc 200) w) := by
  have hnew := new_in w a len cap hcode
  replace hcode := hidI hcode
  go_enter Try.func40, Try.ntmps40
  go_wp2_with fail
  refine hnew.mono ?_
  rintro e w1 ⟨g, rfl, hb1, hd1⟩
  have hlt := hd1.lt
  have hany := word3_in hd1
  replace hd1 := hidI hd1
  clear hnew
  go_wp2_with fail
  refine hany.mono ?_
  rintro e w2 ⟨v1, z1, hz1, rfl, hr1, hg2, hd2⟩
  have hb2 := hb1.trans (hd1.out.below hg2)
  have honce := once_in hd2 2 2 rfl (by omega) (by omega)
  replace hr1 := hidI hr1
  replace hz1 := hidI hz1
  replace hd2 := hidI hd2
  clear hany hg2 hb1
  go_wp2_with fail
  refine honce.mono ?_
  rintro e w3 ⟨b, rfl, hg3, hd3⟩
  have hr3 := hidI (hr1.out.over hg3 hlt)
  have hb3 := hb2.trans (hd2.out.below hg3)
  clear honce hg3 hb2 hr1 hd2
  cases b with
  | true =>
    have hz1l : z1.length ≤ 20 := hz1.out.2
    have hroot := specRoot w3 v1 z1 hr3.out.read (by omega)
    have hrc : Cyc 60 (rootL z1).1 := ⟨hz1.out.1.root (by omega), by have := rootL_length z1; omega⟩
    obtain ⟨rz, hrz⟩ : ∃ rz, rz = (rootL z1).1 := ⟨_, rfl⟩
    obtain ⟨rk, hrk⟩ : ∃ rk, rk = (rootL z1).2 := ⟨_, rfl⟩
    rw [← hrz, ← hrk] at hroot
    rw [← hrz] at hrc
    replace hrc := hidI hrc
    replace hrz := hidI hrz
    replace hrk := hidI hrk
    replace hd3 := hidI hd3
    go_wp2_with fail
    refine hroot.mono ?_
    rintro e w4 ⟨v4, rfl, hr4, hb4'⟩
    have hd4 := hd3.out.over hb4' hd3.out.lt
    have hs3 := hb3.size
    have hb4 := hb3.trans (hb4'.mono hs3)
    have hr1b := hidI ((hr3.out.below hb4' (Nat.le_refl _)).wide (Nat.le_refl _) hb4'.size)
    have hlt3 : g < w3.heap.size := hd3.out.lt
    have hbel := below_in hd4 4 4 rfl (by omega) (by omega)
    replace hr4 := hidI hr4
    replace hd4 := hidI hd4
    clear hroot hb4' hb3 hr3 hd3
    go_wp2_with fail
    refine hbel.mono ?_
    rintro e w5 ⟨k, ⟨hk0, hk3⟩, rfl, hg5, hd5⟩
    have hr5 := hr4.out.over hg5 hlt3
    have hr1c := hidI (hr1b.out.over hg5 hlt)
    have hb5 := hb4.trans (hd4.out.below hg5)
    have hrl : rz.length ≤ 60 := hrc.out.2
    have hpow := specPowAny w5 v4 rz k hr5.read (by omega) (by omega) (by omega)
    have hpc : Cyc 200 (powL rz k) := ⟨hrc.out.1.pow (by omega) _, by have := powL_len2 rz k 3 (by omega); omega⟩
    replace hpc := hidI hpc
    clear hbel hg5 hr4 hr5 hr1b hd4 hd5 hb4
    go_wp2_with fail
    refine hpow.mono ?_
    rintro e w6 ⟨v6, rfl, hr6, hb6⟩
    have hr : Words2 (Cyc 200) w (.returned (.tuple #[v1, v6])) w6 := ⟨v1, v6, z1, _, hz1.out.mono (by omega), hpc.out, rfl, ((hr1c.out.read.below hb6).mono hb6.size), hr6.read, hb5.trans (hb6.mono hb5.size)⟩
    replace hr := hidI hr
    clear hpow hr6 hb6 hb5 hr1c
    go_wp2
    go_ret2
    exact hr.out
  | false =>
    have hany2 := word3_in hd3
    replace hd3 := hidI hd3
    go_wp2_with fail
    refine hany2.mono ?_
    rintro e w4 ⟨v4, z4, hz4, rfl, hr4, hg4, hd4⟩
    have hr : Words2 (Cyc 200) w (.returned (.tuple #[v1, v4])) w4 := ⟨v1, v4, z1, z4, hz1.out.mono (by omega), hz4.mono (by omega), rfl, (hr3.out.over hg4 hlt).read, hr4.read, hb3.trans (hd3.out.below hg4)⟩
    replace hr := hidI hr
    clear hany2 hz4 hr4 hg4 hd4
    go_wp2
    go_ret2
    exact hr.out
end Go.Proofs.Ytcjkgknmpgehbaa
