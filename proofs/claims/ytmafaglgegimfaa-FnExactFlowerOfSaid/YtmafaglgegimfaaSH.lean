/- Paths of new edges, the program: takesPath, AddPath (tools/sh.py). -/
import Derived.Test.YtmafaglgegimfaaSG
import Derived.Test.YtmafaglgegimfaaSF2
import Derived.Test.YtmafaglgegimfaaGP3
import Derived.Test.YtmafaglgegimfaaWJ
import Derived.Test.YtmafaglgegimfaaGS3
import Derived.Deep.Cut
namespace Go.Proofs.Ytmafaglgegimfaa
open Go.RowKit
set_option linter.unusedVariables false
set_option linter.unusedSimpArgs false

set_option maxRecDepth 100000 in
set_option maxHeartbeats 600000 in
theorem takes_any (w : World) (r s u v : Int) (a : Option Addr) (m cap : Nat) (es : List Ed) (vw : Value) (wd : List Int) (h : ReadE w.heap.size w (.slice a m cap) es) (hm : m = es.length) (hl : es.length ≤ 10000000) (hw : ReadI w.heap.size w vw wd) (hwl : wd.length ≤ 10000000) :
    Calls Try.prog 63 #[.agg #[.int .i64 r, .int .i64 s, .slice a m cap], .int .i64 u, vw, .int .i64 v] w (LwBool w (tkP r s es u wd v)) := by
  obtain ⟨w1, hw1⟩ : ∃ z, z = w.alloc (.cells #[.int .i64 r, .int .i64 s, .slice a m cap] 30) := ⟨_, rfl⟩
  have hb1 : Below w.heap.size w w1 := by rw [hw1]; exact (Below.refl _ _).alloc (Nat.le_refl _) _
  have hlt1 : w.heap.size < w1.heap.size := by rw [hw1]; simp
  obtain ⟨g0, g1, g2⟩ := box3 hw1
  have h1 := (h.below hb1).mono hb1.size
  have q1 := hw.below hb1
  obtain ⟨_, aw, cw, rfl, hz1, hz2⟩ := hw
  clear hz1 hz2
  obtain ⟨n, hn⟩ : ∃ n, n = wd.length := ⟨_, rfl⟩
  obtain ⟨ans, hans⟩ : ∃ z, z = tkP r s es u wd v := ⟨_, rfl⟩
  have hparts : ans = (isGr r s es && decide (0 ≤ u ∧ u < s) && decide (0 ≤ v ∧ v < s) && isW r wd && decide (n ≠ 0) && decide (s + n - 1 ≤ 40) && decide (es.length + n ≤ 120)) := by rw [hans, hn]; rfl
  rw [← hans]
  rw [← hn] at hwl q1 ⊢
  have hgr := progIsGr w1 r s _ es h1 (by omega)
  have hlim : isGr r s es = true → 1 ≤ s ∧ s ≤ 40 ∧ es.length ≤ 120 := fun h => by obtain ⟨_, _, _, g2, g3, g4⟩ := isGr_iff.1 h; exact ⟨g2, g3, g4⟩
  obtain ⟨b1, hb1_⟩ : ∃ b, b = isGr r s es := ⟨_, rfl⟩
  obtain ⟨b4, hb4_⟩ : ∃ b, b = isW r wd := ⟨_, rfl⟩
  have hvx := fun W x => gpVertex W r s x a m cap
  have hwx := fun W B (hr : ReadI B W (.slice aw n cw) wd) => isWord_any W B _ wd r hr
  rw [← hb1_] at hgr hparts hlim
  rw [← hb4_] at hparts
  simp only [← hb4_] at hwx
  replace hb1_ := hidI hb1_
  replace hb4_ := hidI hb4_
  replace hans := hidI hans
  replace hn := hidI hn
  replace hm := hidI hm
  replace h := hidI h
  replace h1 := hidI h1
  replace q1 := hidI q1
  replace hvx := hidI hvx
  replace hwx := hidI hwx
  cases b1 with
  | false =>
    have hpz : ans = false := by rw [hparts]; rfl
    replace hpz := hidI hpz
    clear hparts hlim
    go_enter Try.func63, Try.ntmps63
    go_upto_region 1 with fail
    rw [← hw1]
    replace hw1 := hidI hw1
    go_wp2_with fail
    refine (hgr).mono ?_
    rintro e w2 ⟨rfl, hbn⟩
    have hb2 := hb1.trans (hbn.mono hb1.size)
    have hlt2 : w.heap.size < w2.heap.size := by have := hbn.size; omega
    have hsz2 : w1.heap.size ≤ w2.heap.size := by have := hbn.size; omega
    replace g0 := below_cell g0 hbn hlt1
    replace g1 := below_cell g1 hbn hlt1
    replace g2 := below_cell g2 hbn hlt1
    clear hbn
    go_wp2
    go_ret
    exact ⟨ret_bool hpz.out.symm, hb2⟩
  | true =>
    obtain ⟨hs1, hs2, hel⟩ := hlim rfl
    by_cases c1 : 0 ≤ u ∧ u < s
    case neg =>
      rw [decide_eq_false c1] at hparts
      have hvu : ∀ W, Calls Try.prog 48 #[.agg #[.int .i64 r, .int .i64 s, .slice a m cap], .int .i64 u] W (LwBool W false) := fun W => by have := hvx.out W u; rwa [decide_eq_false c1] at this
      replace c1 := hidI c1
      have hpz : ans = false := by rw [hparts]; simp
      replace hpz := hidI hpz
      clear hparts hlim
      go_enter Try.func63, Try.ntmps63
      go_upto_region 1 with fail
      rw [← hw1]
      replace hw1 := hidI hw1
      go_wp2_with fail
      refine (hgr).mono ?_
      rintro e w2 ⟨rfl, hbn⟩
      have hb2 := hb1.trans (hbn.mono hb1.size)
      have hlt2 : w.heap.size < w2.heap.size := by have := hbn.size; omega
      have hsz2 : w1.heap.size ≤ w2.heap.size := by have := hbn.size; omega
      replace g0 := below_cell g0 hbn hlt1
      replace g1 := below_cell g1 hbn hlt1
      replace g2 := below_cell g2 hbn hlt1
      clear hbn
      go_wp2_with fail
      refine (hvu w2).mono ?_
      rintro e w3 ⟨rfl, hbn⟩
      have hb3 := hb2.trans (hbn.mono hb2.size)
      have hlt3 : w.heap.size < w3.heap.size := by have := hbn.size; omega
      have hsz3 : w1.heap.size ≤ w3.heap.size := by have := hbn.size; omega
      replace g0 := below_cell g0 hbn hlt2
      replace g1 := below_cell g1 hbn hlt2
      replace g2 := below_cell g2 hbn hlt2
      clear hbn
      go_wp2
      go_ret
      exact ⟨ret_bool hpz.out.symm, hb3⟩
    have hvu : ∀ W, Calls Try.prog 48 #[.agg #[.int .i64 r, .int .i64 s, .slice a m cap], .int .i64 u] W (LwBool W true) := fun W => by have := hvx.out W u; rwa [decide_eq_true c1] at this
    rw [decide_eq_true c1] at hparts
    replace c1 := hidI c1
    by_cases c2 : 0 ≤ v ∧ v < s
    case neg =>
      rw [decide_eq_false c2] at hparts
      have hvv : ∀ W, Calls Try.prog 48 #[.agg #[.int .i64 r, .int .i64 s, .slice a m cap], .int .i64 v] W (LwBool W false) := fun W => by have := hvx.out W v; rwa [decide_eq_false c2] at this
      replace c2 := hidI c2
      have hpz : ans = false := by rw [hparts]; simp
      replace hpz := hidI hpz
      clear hparts hlim
      go_enter Try.func63, Try.ntmps63
      go_upto_region 1 with fail
      rw [← hw1]
      replace hw1 := hidI hw1
      go_wp2_with fail
      refine (hgr).mono ?_
      rintro e w2 ⟨rfl, hbn⟩
      have hb2 := hb1.trans (hbn.mono hb1.size)
      have hlt2 : w.heap.size < w2.heap.size := by have := hbn.size; omega
      have hsz2 : w1.heap.size ≤ w2.heap.size := by have := hbn.size; omega
      replace g0 := below_cell g0 hbn hlt1
      replace g1 := below_cell g1 hbn hlt1
      replace g2 := below_cell g2 hbn hlt1
      clear hbn
      go_wp2_with fail
      refine (hvu w2).mono ?_
      rintro e w3 ⟨rfl, hbn⟩
      have hb3 := hb2.trans (hbn.mono hb2.size)
      have hlt3 : w.heap.size < w3.heap.size := by have := hbn.size; omega
      have hsz3 : w1.heap.size ≤ w3.heap.size := by have := hbn.size; omega
      replace g0 := below_cell g0 hbn hlt2
      replace g1 := below_cell g1 hbn hlt2
      replace g2 := below_cell g2 hbn hlt2
      clear hbn
      go_wp2_with fail
      refine (hvv w3).mono ?_
      rintro e w4 ⟨rfl, hbn⟩
      have hb4 := hb3.trans (hbn.mono hb3.size)
      have hlt4 : w.heap.size < w4.heap.size := by have := hbn.size; omega
      have hsz4 : w1.heap.size ≤ w4.heap.size := by have := hbn.size; omega
      replace g0 := below_cell g0 hbn hlt3
      replace g1 := below_cell g1 hbn hlt3
      replace g2 := below_cell g2 hbn hlt3
      clear hbn
      go_wp2
      go_ret
      exact ⟨ret_bool hpz.out.symm, hb4⟩
    have hvv : ∀ W, Calls Try.prog 48 #[.agg #[.int .i64 r, .int .i64 s, .slice a m cap], .int .i64 v] W (LwBool W true) := fun W => by have := hvx.out W v; rwa [decide_eq_true c2] at this
    rw [decide_eq_true c2] at hparts
    replace c2 := hidI c2
    by_cases c3 : 0 < n
    case neg =>
      rw [decide_eq_false (show ¬ n ≠ 0 by omega)] at hparts
      have t3 : ¬ (0 : Int) < (n : Int) := by omega
      have t3d : decide ((0 : Int) < (n : Int)) = false := by rw [decide_eq_false_iff_not]; exact t3
      replace t3 := hidI t3
      have hpz : ans = false := by rw [hparts]; simp
      replace hpz := hidI hpz
      clear hparts hlim
      go_enter Try.func63, Try.ntmps63
      go_upto_region 1 with fail
      rw [← hw1]
      replace hw1 := hidI hw1
      go_wp2_with fail
      refine (hgr).mono ?_
      rintro e w2 ⟨rfl, hbn⟩
      have hb2 := hb1.trans (hbn.mono hb1.size)
      have hlt2 : w.heap.size < w2.heap.size := by have := hbn.size; omega
      have hsz2 : w1.heap.size ≤ w2.heap.size := by have := hbn.size; omega
      replace g0 := below_cell g0 hbn hlt1
      replace g1 := below_cell g1 hbn hlt1
      replace g2 := below_cell g2 hbn hlt1
      clear hbn
      go_wp2_with fail
      refine (hvu w2).mono ?_
      rintro e w3 ⟨rfl, hbn⟩
      have hb3 := hb2.trans (hbn.mono hb2.size)
      have hlt3 : w.heap.size < w3.heap.size := by have := hbn.size; omega
      have hsz3 : w1.heap.size ≤ w3.heap.size := by have := hbn.size; omega
      replace g0 := below_cell g0 hbn hlt2
      replace g1 := below_cell g1 hbn hlt2
      replace g2 := below_cell g2 hbn hlt2
      clear hbn
      go_wp2_with fail
      refine (hvv w3).mono ?_
      rintro e w4 ⟨rfl, hbn⟩
      have hb4 := hb3.trans (hbn.mono hb3.size)
      have hlt4 : w.heap.size < w4.heap.size := by have := hbn.size; omega
      have hsz4 : w1.heap.size ≤ w4.heap.size := by have := hbn.size; omega
      replace g0 := below_cell g0 hbn hlt3
      replace g1 := below_cell g1 hbn hlt3
      replace g2 := below_cell g2 hbn hlt3
      clear hbn
      go_wp2
      go_ret
      exact ⟨ret_bool hpz.out.symm, hb4⟩
    rw [decide_eq_true (show n ≠ 0 by omega)] at hparts
    have t3d : decide ((0 : Int) < (n : Int)) = true := by rw [decide_eq_true_eq]; omega
    cases b4 with
    | false =>
      have hpz : ans = false := by rw [hparts]; simp
      replace hpz := hidI hpz
      clear hparts hlim
      go_enter Try.func63, Try.ntmps63
      go_upto_region 1 with fail
      rw [← hw1]
      replace hw1 := hidI hw1
      go_wp2_with fail
      refine (hgr).mono ?_
      rintro e w2 ⟨rfl, hbn⟩
      have hb2 := hb1.trans (hbn.mono hb1.size)
      have hlt2 : w.heap.size < w2.heap.size := by have := hbn.size; omega
      have hsz2 : w1.heap.size ≤ w2.heap.size := by have := hbn.size; omega
      replace g0 := below_cell g0 hbn hlt1
      replace g1 := below_cell g1 hbn hlt1
      replace g2 := below_cell g2 hbn hlt1
      clear hbn
      go_wp2_with fail
      refine (hvu w2).mono ?_
      rintro e w3 ⟨rfl, hbn⟩
      have hb3 := hb2.trans (hbn.mono hb2.size)
      have hlt3 : w.heap.size < w3.heap.size := by have := hbn.size; omega
      have hsz3 : w1.heap.size ≤ w3.heap.size := by have := hbn.size; omega
      replace g0 := below_cell g0 hbn hlt2
      replace g1 := below_cell g1 hbn hlt2
      replace g2 := below_cell g2 hbn hlt2
      clear hbn
      go_wp2_with fail
      refine (hvv w3).mono ?_
      rintro e w4 ⟨rfl, hbn⟩
      have hb4 := hb3.trans (hbn.mono hb3.size)
      have hlt4 : w.heap.size < w4.heap.size := by have := hbn.size; omega
      have hsz4 : w1.heap.size ≤ w4.heap.size := by have := hbn.size; omega
      replace g0 := below_cell g0 hbn hlt3
      replace g1 := below_cell g1 hbn hlt3
      replace g2 := below_cell g2 hbn hlt3
      clear hbn
      have q5 := (q1.out.below (show Below w.heap.size w1 w4 from by
        refine ⟨hb4.os.trans hb1.os.symm, hb4.tape.trans hb1.tape.symm, hb4.output.trans hb1.output.symm, by omega, fun z hz => (hb4.block z hz).trans (hb1.block z hz).symm⟩))
      go_wp2_with fail
      refine (hwx.out w4 _ q5).mono ?_
      rintro e w5 ⟨rfl, mm, rfl⟩
      replace hb4 := below_dn hb4 mm
      go_wp2
      go_ret
      exact ⟨ret_bool hpz.out.symm, hb4⟩
    | true =>
      have hmb : m ≤ 120 := by have := hm.out; omega
      by_cases c5 : s + n - 1 ≤ 40
      case neg =>
        rw [decide_eq_false c5] at hparts
        have hpz : ans = false := by rw [hparts]; simp
        replace hpz := hidI hpz
        clear hparts hlim
        replace c5 := hidI c5
        go_enter Try.func63, Try.ntmps63
        go_upto_region 1 with fail
        rw [← hw1]
        replace hw1 := hidI hw1
        go_wp2_with fail
        refine (hgr).mono ?_
        rintro e w2 ⟨rfl, hbn⟩
        have hb2 := hb1.trans (hbn.mono hb1.size)
        have hlt2 : w.heap.size < w2.heap.size := by have := hbn.size; omega
        have hsz2 : w1.heap.size ≤ w2.heap.size := by have := hbn.size; omega
        replace g0 := below_cell g0 hbn hlt1
        replace g1 := below_cell g1 hbn hlt1
        replace g2 := below_cell g2 hbn hlt1
        clear hbn
        go_wp2_with fail
        refine (hvu w2).mono ?_
        rintro e w3 ⟨rfl, hbn⟩
        have hb3 := hb2.trans (hbn.mono hb2.size)
        have hlt3 : w.heap.size < w3.heap.size := by have := hbn.size; omega
        have hsz3 : w1.heap.size ≤ w3.heap.size := by have := hbn.size; omega
        replace g0 := below_cell g0 hbn hlt2
        replace g1 := below_cell g1 hbn hlt2
        replace g2 := below_cell g2 hbn hlt2
        clear hbn
        go_wp2_with fail
        refine (hvv w3).mono ?_
        rintro e w4 ⟨rfl, hbn⟩
        have hb4 := hb3.trans (hbn.mono hb3.size)
        have hlt4 : w.heap.size < w4.heap.size := by have := hbn.size; omega
        have hsz4 : w1.heap.size ≤ w4.heap.size := by have := hbn.size; omega
        replace g0 := below_cell g0 hbn hlt3
        replace g1 := below_cell g1 hbn hlt3
        replace g2 := below_cell g2 hbn hlt3
        clear hbn
        have q5 := (q1.out.below (show Below w.heap.size w1 w4 from by
          refine ⟨hb4.os.trans hb1.os.symm, hb4.tape.trans hb1.tape.symm, hb4.output.trans hb1.output.symm, by omega, fun z hz => (hb4.block z hz).trans (hb1.block z hz).symm⟩))
        go_wp2_with fail
        refine (hwx.out w4 _ q5).mono ?_
        rintro e w5 ⟨rfl, mm, rfl⟩
        replace hb4 := below_dn hb4 mm
        go_wp2
        all_goals first | (exfalso; have := c5.out; omega) | skip
        go_ret
        exact ⟨ret_bool hpz.out.symm, hb4⟩
      rw [decide_eq_true c5] at hparts
      by_cases c6 : es.length + n ≤ 120
      case neg =>
        rw [decide_eq_false c6] at hparts
        have hpz : ans = false := by rw [hparts]; simp
        replace hpz := hidI hpz
        clear hparts hlim
        replace c5 := hidI c5
        replace c6 := hidI c6
        go_enter Try.func63, Try.ntmps63
        go_upto_region 1 with fail
        rw [← hw1]
        replace hw1 := hidI hw1
        go_wp2_with fail
        refine (hgr).mono ?_
        rintro e w2 ⟨rfl, hbn⟩
        have hb2 := hb1.trans (hbn.mono hb1.size)
        have hlt2 : w.heap.size < w2.heap.size := by have := hbn.size; omega
        have hsz2 : w1.heap.size ≤ w2.heap.size := by have := hbn.size; omega
        replace g0 := below_cell g0 hbn hlt1
        replace g1 := below_cell g1 hbn hlt1
        replace g2 := below_cell g2 hbn hlt1
        clear hbn
        go_wp2_with fail
        refine (hvu w2).mono ?_
        rintro e w3 ⟨rfl, hbn⟩
        have hb3 := hb2.trans (hbn.mono hb2.size)
        have hlt3 : w.heap.size < w3.heap.size := by have := hbn.size; omega
        have hsz3 : w1.heap.size ≤ w3.heap.size := by have := hbn.size; omega
        replace g0 := below_cell g0 hbn hlt2
        replace g1 := below_cell g1 hbn hlt2
        replace g2 := below_cell g2 hbn hlt2
        clear hbn
        go_wp2_with fail
        refine (hvv w3).mono ?_
        rintro e w4 ⟨rfl, hbn⟩
        have hb4 := hb3.trans (hbn.mono hb3.size)
        have hlt4 : w.heap.size < w4.heap.size := by have := hbn.size; omega
        have hsz4 : w1.heap.size ≤ w4.heap.size := by have := hbn.size; omega
        replace g0 := below_cell g0 hbn hlt3
        replace g1 := below_cell g1 hbn hlt3
        replace g2 := below_cell g2 hbn hlt3
        clear hbn
        have q5 := (q1.out.below (show Below w.heap.size w1 w4 from by
          refine ⟨hb4.os.trans hb1.os.symm, hb4.tape.trans hb1.tape.symm, hb4.output.trans hb1.output.symm, by omega, fun z hz => (hb4.block z hz).trans (hb1.block z hz).symm⟩))
        go_wp2_with fail
        refine (hwx.out w4 _ q5).mono ?_
        rintro e w5 ⟨rfl, mm, rfl⟩
        replace hb4 := below_dn hb4 mm
        go_wp2
        all_goals first | (exfalso; have := c5.out; omega) | skip
        go_ret
        refine ⟨ret_bool ?_, hb4⟩
        rw [hpz.out, decide_eq_false_iff_not]
        have := hm.out
        have := c6.out
        omega
      rw [decide_eq_true c6] at hparts
      have hpz : ans = true := by rw [hparts]; simp
      replace hpz := hidI hpz
      clear hparts hlim
      replace c5 := hidI c5
      replace c6 := hidI c6
      go_enter Try.func63, Try.ntmps63
      go_upto_region 1 with fail
      rw [← hw1]
      replace hw1 := hidI hw1
      go_wp2_with fail
      refine (hgr).mono ?_
      rintro e w2 ⟨rfl, hbn⟩
      have hb2 := hb1.trans (hbn.mono hb1.size)
      have hlt2 : w.heap.size < w2.heap.size := by have := hbn.size; omega
      have hsz2 : w1.heap.size ≤ w2.heap.size := by have := hbn.size; omega
      replace g0 := below_cell g0 hbn hlt1
      replace g1 := below_cell g1 hbn hlt1
      replace g2 := below_cell g2 hbn hlt1
      clear hbn
      go_wp2_with fail
      refine (hvu w2).mono ?_
      rintro e w3 ⟨rfl, hbn⟩
      have hb3 := hb2.trans (hbn.mono hb2.size)
      have hlt3 : w.heap.size < w3.heap.size := by have := hbn.size; omega
      have hsz3 : w1.heap.size ≤ w3.heap.size := by have := hbn.size; omega
      replace g0 := below_cell g0 hbn hlt2
      replace g1 := below_cell g1 hbn hlt2
      replace g2 := below_cell g2 hbn hlt2
      clear hbn
      go_wp2_with fail
      refine (hvv w3).mono ?_
      rintro e w4 ⟨rfl, hbn⟩
      have hb4 := hb3.trans (hbn.mono hb3.size)
      have hlt4 : w.heap.size < w4.heap.size := by have := hbn.size; omega
      have hsz4 : w1.heap.size ≤ w4.heap.size := by have := hbn.size; omega
      replace g0 := below_cell g0 hbn hlt3
      replace g1 := below_cell g1 hbn hlt3
      replace g2 := below_cell g2 hbn hlt3
      clear hbn
      have q5 := (q1.out.below (show Below w.heap.size w1 w4 from by
        refine ⟨hb4.os.trans hb1.os.symm, hb4.tape.trans hb1.tape.symm, hb4.output.trans hb1.output.symm, by omega, fun z hz => (hb4.block z hz).trans (hb1.block z hz).symm⟩))
      go_wp2_with fail
      refine (hwx.out w4 _ q5).mono ?_
      rintro e w5 ⟨rfl, mm, rfl⟩
      replace hb4 := below_dn hb4 mm
      go_wp2
      all_goals first | (exfalso; have := c5.out; omega) | skip
      go_ret
      refine ⟨ret_bool ?_, hb4⟩
      rw [hpz.out, decide_eq_true_eq]
      have := hm.out
      have := c6.out
      omega
end Go.Proofs.Ytmafaglgegimfaa
