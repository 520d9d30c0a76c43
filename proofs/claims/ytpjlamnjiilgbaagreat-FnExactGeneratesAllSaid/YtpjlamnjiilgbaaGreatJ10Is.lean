import Derived.Deep.Cut
import Derived.Test.YtpjlamnjiilgbaaGreatJ6Is
import Derived.Test.YtpjlamnjiilgbaaGreatJ7Is
import Derived.Test.YtpjlamnjiilgbaaGreatJ5Is
import Derived.Test.YtpjlamnjiilgbaaGreatJ9Is
import Derived.Test.YtpjlamnjiilgbaaGreatJ2Is
namespace Go.Proofs.YtpjlamnjiilgbaaGreat
open Go.RowKit
set_option linter.unusedVariables false
set_option linter.unusedSimpArgs false
def atP (s u : Int) (i : Nat) : Int := if i = 0 then u else s + i - 1
def nxP (s v : Int) (n i : Nat) : Int := if i + 1 < n then s + i else v
def edP (s u v : Int) (wd : List Int) (i : Nat) : Ed := eB (atP s u i) (wd.getD i 0) (nxP s v wd.length i)
def pathK (s u v : Int) (wd : List Int) (k : Nat) : List Ed := (List.range k).map (edP s u v wd)
theorem pathK_succ (s u v : Int) (wd : List Int) (k : Nat) : pathK s u v wd (k + 1) = pathK s u v wd k ++ [edP s u v wd k] := by unfold pathK; rw [List.range_succ, List.map_append]; rfl
theorem pathK_length (s u v : Int) (wd : List Int) (k : Nat) : (pathK s u v wd k).length = k := by simp [pathK]
theorem atP_succ (s u : Int) (i : Nat) : atP s u (i + 1) = s + i := by unfold atP; rw [if_neg (by omega)]; push_cast; omega
theorem nxP_mid {s v : Int} {n i : Nat} (h : i + 1 < n) : nxP s v n i = s + i := if_pos h
theorem nxP_last {s v : Int} {n i : Nat} (h : ¬ i + 1 < n) : nxP s v n i = v := if_neg h
def tkP (r s : Int) (es : List Ed) (u : Int) (wd : List Int) (v : Int) : Bool :=
 isGr r s es && decide (0 ≤ u ∧ u < s) && decide (0 ≤ v ∧ v < s) && isW r wd && decide (wd.length ≠ 0) && decide (s + wd.length - 1 ≤ 40) && decide (es.length + wd.length ≤ 120)
def pthS (r s : Int) (es : List Ed) (u : Int) (wd : List Int) (v : Int) : Int := if tkP r s es u wd v = true then s + wd.length - 1 else s
def pthE (r s : Int) (es : List Ed) (u : Int) (wd : List Int) (v : Int) : List Ed := if tkP r s es u wd v = true then putAll es (pathK s u v wd wd.length) else es
theorem tkP_yes {r s : Int} {es : List Ed} {u : Int} {wd : List Int} {v : Int} (h : tkP r s es u wd v = true) : isGr r s es = true ∧ (0 ≤ u ∧ u < s) ∧ (0 ≤ v ∧ v < s) ∧ isW r wd = true ∧ wd.length ≠ 0 ∧ s + wd.length - 1 ≤ 40 ∧ es.length + wd.length ≤ 120 ∧ wd.length ≤ 24 ∧ 1 ≤ r ∧ r ≤ 3 ∧ 1 ≤ s ∧ s ≤ 40 := by
 unfold tkP at h
 simp only [Bool.and_eq_true, decide_eq_true_eq] at h
 obtain ⟨⟨⟨⟨⟨⟨h1, h2⟩, h3⟩, h4⟩, h5⟩, h6⟩, h7⟩ := h
 have hw := h4
 unfold isW at hw
 rw [decide_eq_true_eq] at hw
 obtain ⟨_, g1, g2, g3, g4, _⟩ := isGr_iff.1 h1
 exact ⟨h1, h2, h3, h4, h5, h6, h7, hw.2.2.2, g1, g2, g3, g4⟩
theorem isW_let {r : Int} {wd : List Int} (h : isW r wd = true) (hr : 1 ≤ r ∧ r ≤ 3) {i : Nat} (hi : i < wd.length) : wd.getD i 0 ≠ 0 ∧ -3 ≤ wd.getD i 0 ∧ wd.getD i 0 ≤ 3 := by
 unfold isW at h
 rw [decide_eq_true_eq] at h
 have := h.1 i hi
 unfold okAt at this
 obtain ⟨h1, h2, h3, _⟩ := this
 have hn : ng r = -r := ng_of (by omega) (by omega)
 exact ⟨h1, by omega, by omega⟩
theorem pthE_length (r s : Int) (es : List Ed) (u : Int) (wd : List Int) (v : Int) : (pthE r s es u wd v).length ≤ es.length + wd.length := by
 unfold pthE
 split
 · have := putAll_length (pathK s u v wd wd.length) es
   rw [pathK_length] at this
   exact this
 · omega
set_option maxRecDepth 100000 in
set_option maxHeartbeats 600000 in
theorem takes_any (w : World) (r s u v : Int) (a : Option Addr) (m cap : Nat) (es : List Ed) (vw : Value) (wd : List Int) (h : ReadE w.heap.size w (.slice a m cap) es) (hm : m = es.length) (hl : es.length ≤ 10000000) (hw : ReadI w.heap.size w vw wd) (hwl : wd.length ≤ 10000000) :
 Calls Tryz.prog 190 #[.agg #[.int .i64 r, .int .i64 s, .slice a m cap], .int .i64 u, vw, .int .i64 v] w (LwBool w (tkP r s es u wd v)) := by
 obtain ⟨w1, hw1⟩ := exq (w.alloc (.cells #[.int .i64 r, .int .i64 s, .slice a m cap] 26))
 have hb1 : Below w.heap.size w w1 := by rw [hw1]; exact (Below.refl _ _).alloc (Nat.le_refl _) _
 have hlt1 : w.heap.size < w1.heap.size := by rw [hw1]; simp
 obtain ⟨g0, g1, g2⟩ := box3 hw1
 have h1 := (h.below hb1).mono hb1.size
 have q1 := hw.below hb1
 obtain ⟨_, aw, cw, rfl, hz1, hz2⟩ := hw
 clear hz1 hz2
 obtain ⟨n, hn⟩ := exq wd.length
 obtain ⟨ans, hans⟩ := exq (tkP r s es u wd v)
 have hparts : ans = (isGr r s es && decide (0 ≤ u ∧ u < s) && decide (0 ≤ v ∧ v < s) && isW r wd && decide (n ≠ 0) && decide (s + n - 1 ≤ 40) && decide (es.length + n ≤ 120)) := by rw [hans, hn]; rfl
 rw [← hans]
 rw [← hn] at hwl q1 ⊢
 have hgr := progIsGr w1 r s _ es h1 (by omega)
 have hlim : isGr r s es = true → 1 ≤ s ∧ s ≤ 40 ∧ es.length ≤ 120 := fun h => by obtain ⟨_, _, _, g2, g3, g4⟩ := isGr_iff.1 h; exact ⟨g2, g3, g4⟩
 obtain ⟨b1, hb1_⟩ := exq (isGr r s es)
 obtain ⟨b4, hb4_⟩ := exq (isW r wd)
 have hvx := fun W x => gpVertex W r s x a m cap
 have hwx := fun W B (hr : ReadI B W (.slice aw n cw) wd) => isWord_any W B _ wd r hr
 rw [← hb1_] at hgr hparts hlim
 rw [← hb4_] at hparts
 simp only [← hb4_] at hwx
 replace hb1_ := hidI hb1_
 replace hb4_ := hidI hb4_
 replace hans := hidI hans
 replace hn := hidI hn
 replace hm := hidI hm
 replace h := hidI h
 replace h1 := hidI h1
 replace q1 := hidI q1
 replace hvx := hidI hvx
 replace hwx := hidI hwx
 cases b1 with
 | false =>
  have hpz : ans = false := by rw [hparts]; rfl
  replace hpz := hidI hpz
  clear hparts hlim
  go_enter Tryz.func190, Tryz.ntmps190
  go_upto_region 1 with fail
  rw [← hw1]
  replace hw1 := hidI hw1
  go_wp2_with fail
  refine (hgr).mono ?_
  rintro e w2 ⟨rfl, hbn⟩
  have hb2 := hb1.trans (hbn.mono hb1.size)
  have hlt2 : w.heap.size < w2.heap.size := by have := hbn.size; omega
  have hsz2 : w1.heap.size ≤ w2.heap.size := by have := hbn.size; omega
  replace g0 := below_cell g0 hbn hlt1
  replace g1 := below_cell g1 hbn hlt1
  replace g2 := below_cell g2 hbn hlt1
  clear hbn
  go_wp2
  go_ret
  exact ⟨ret_bool hpz.out.symm, hb2⟩
 | true =>
  obtain ⟨hs1, hs2, hel⟩ := hlim rfl
  by_cases c1 : 0 ≤ u ∧ u < s
  case neg =>
   rw [decide_eq_false c1] at hparts
   have hvu : ∀ W, Calls Tryz.prog 172 #[.agg #[.int .i64 r, .int .i64 s, .slice a m cap], .int .i64 u] W (LwBool W false) := fun W => by have := hvx.out W u; rwa [decide_eq_false c1] at this
   replace c1 := hidI c1
   have hpz : ans = false := by rw [hparts]; simp
   replace hpz := hidI hpz
   clear hparts hlim
   go_enter Tryz.func190, Tryz.ntmps190
   go_upto_region 1 with fail
   rw [← hw1]
   replace hw1 := hidI hw1
   go_wp2_with fail
   refine (hgr).mono ?_
   rintro e w2 ⟨rfl, hbn⟩
   have hb2 := hb1.trans (hbn.mono hb1.size)
   have hlt2 : w.heap.size < w2.heap.size := by have := hbn.size; omega
   have hsz2 : w1.heap.size ≤ w2.heap.size := by have := hbn.size; omega
   replace g0 := below_cell g0 hbn hlt1
   replace g1 := below_cell g1 hbn hlt1
   replace g2 := below_cell g2 hbn hlt1
   clear hbn
   go_wp2_with fail
   refine (hvu w2).mono ?_
   rintro e w3 ⟨rfl, hbn⟩
   have hb3 := hb2.trans (hbn.mono hb2.size)
   have hlt3 : w.heap.size < w3.heap.size := by have := hbn.size; omega
   have hsz3 : w1.heap.size ≤ w3.heap.size := by have := hbn.size; omega
   replace g0 := below_cell g0 hbn hlt2
   replace g1 := below_cell g1 hbn hlt2
   replace g2 := below_cell g2 hbn hlt2
   clear hbn
   go_wp2
   go_ret
   exact ⟨ret_bool hpz.out.symm, hb3⟩
  have hvu : ∀ W, Calls Tryz.prog 172 #[.agg #[.int .i64 r, .int .i64 s, .slice a m cap], .int .i64 u] W (LwBool W true) := fun W => by have := hvx.out W u; rwa [decide_eq_true c1] at this
  rw [decide_eq_true c1] at hparts
  replace c1 := hidI c1
  by_cases c2 : 0 ≤ v ∧ v < s
  case neg =>
   rw [decide_eq_false c2] at hparts
   have hvv : ∀ W, Calls Tryz.prog 172 #[.agg #[.int .i64 r, .int .i64 s, .slice a m cap], .int .i64 v] W (LwBool W false) := fun W => by have := hvx.out W v; rwa [decide_eq_false c2] at this
   replace c2 := hidI c2
   have hpz : ans = false := by rw [hparts]; simp
   replace hpz := hidI hpz
   clear hparts hlim
   go_enter Tryz.func190, Tryz.ntmps190
   go_upto_region 1 with fail
   rw [← hw1]
   replace hw1 := hidI hw1
   go_wp2_with fail
   refine (hgr).mono ?_
   rintro e w2 ⟨rfl, hbn⟩
   have hb2 := hb1.trans (hbn.mono hb1.size)
   have hlt2 : w.heap.size < w2.heap.size := by have := hbn.size; omega
   have hsz2 : w1.heap.size ≤ w2.heap.size := by have := hbn.size; omega
   replace g0 := below_cell g0 hbn hlt1
   replace g1 := below_cell g1 hbn hlt1
   replace g2 := below_cell g2 hbn hlt1
   clear hbn
   go_wp2_with fail
   refine (hvu w2).mono ?_
   rintro e w3 ⟨rfl, hbn⟩
   have hb3 := hb2.trans (hbn.mono hb2.size)
   have hlt3 : w.heap.size < w3.heap.size := by have := hbn.size; omega
   have hsz3 : w1.heap.size ≤ w3.heap.size := by have := hbn.size; omega
   replace g0 := below_cell g0 hbn hlt2
   replace g1 := below_cell g1 hbn hlt2
   replace g2 := below_cell g2 hbn hlt2
   clear hbn
   go_wp2_with fail
   refine (hvv w3).mono ?_
   rintro e w4 ⟨rfl, hbn⟩
   have hb4 := hb3.trans (hbn.mono hb3.size)
   have hlt4 : w.heap.size < w4.heap.size := by have := hbn.size; omega
   have hsz4 : w1.heap.size ≤ w4.heap.size := by have := hbn.size; omega
   replace g0 := below_cell g0 hbn hlt3
   replace g1 := below_cell g1 hbn hlt3
   replace g2 := below_cell g2 hbn hlt3
   clear hbn
   go_wp2
   go_ret
   exact ⟨ret_bool hpz.out.symm, hb4⟩
  have hvv : ∀ W, Calls Tryz.prog 172 #[.agg #[.int .i64 r, .int .i64 s, .slice a m cap], .int .i64 v] W (LwBool W true) := fun W => by have := hvx.out W v; rwa [decide_eq_true c2] at this
  rw [decide_eq_true c2] at hparts
  replace c2 := hidI c2
  by_cases c3 : 0 < n
  case neg =>
   rw [decide_eq_false (show ¬ n ≠ 0 by omega)] at hparts
   have t3 : ¬ (0 : Int) < (n : Int) := by omega
   have t3d : decide ((0 : Int) < (n : Int)) = false := by rw [decide_eq_false_iff_not]; exact t3
   replace t3 := hidI t3
   have hpz : ans = false := by rw [hparts]; simp
   replace hpz := hidI hpz
   clear hparts hlim
   go_enter Tryz.func190, Tryz.ntmps190
   go_upto_region 1 with fail
   rw [← hw1]
   replace hw1 := hidI hw1
   go_wp2_with fail
   refine (hgr).mono ?_
   rintro e w2 ⟨rfl, hbn⟩
   have hb2 := hb1.trans (hbn.mono hb1.size)
   have hlt2 : w.heap.size < w2.heap.size := by have := hbn.size; omega
   have hsz2 : w1.heap.size ≤ w2.heap.size := by have := hbn.size; omega
   replace g0 := below_cell g0 hbn hlt1
   replace g1 := below_cell g1 hbn hlt1
   replace g2 := below_cell g2 hbn hlt1
   clear hbn
   go_wp2_with fail
   refine (hvu w2).mono ?_
   rintro e w3 ⟨rfl, hbn⟩
   have hb3 := hb2.trans (hbn.mono hb2.size)
   have hlt3 : w.heap.size < w3.heap.size := by have := hbn.size; omega
   have hsz3 : w1.heap.size ≤ w3.heap.size := by have := hbn.size; omega
   replace g0 := below_cell g0 hbn hlt2
   replace g1 := below_cell g1 hbn hlt2
   replace g2 := below_cell g2 hbn hlt2
   clear hbn
   go_wp2_with fail
   refine (hvv w3).mono ?_
   rintro e w4 ⟨rfl, hbn⟩
   have hb4 := hb3.trans (hbn.mono hb3.size)
   have hlt4 : w.heap.size < w4.heap.size := by have := hbn.size; omega
   have hsz4 : w1.heap.size ≤ w4.heap.size := by have := hbn.size; omega
   replace g0 := below_cell g0 hbn hlt3
   replace g1 := below_cell g1 hbn hlt3
   replace g2 := below_cell g2 hbn hlt3
   clear hbn
   go_wp2
   go_ret
   exact ⟨ret_bool hpz.out.symm, hb4⟩
  rw [decide_eq_true (show n ≠ 0 by omega)] at hparts
  have t3d : decide ((0 : Int) < (n : Int)) = true := by rw [decide_eq_true_eq]; omega
  cases b4 with
  | false =>
   have hpz : ans = false := by rw [hparts]; simp
   replace hpz := hidI hpz
   clear hparts hlim
   go_enter Tryz.func190, Tryz.ntmps190
   go_upto_region 1 with fail
   rw [← hw1]
   replace hw1 := hidI hw1
   go_wp2_with fail
   refine (hgr).mono ?_
   rintro e w2 ⟨rfl, hbn⟩
   have hb2 := hb1.trans (hbn.mono hb1.size)
   have hlt2 : w.heap.size < w2.heap.size := by have := hbn.size; omega
   have hsz2 : w1.heap.size ≤ w2.heap.size := by have := hbn.size; omega
   replace g0 := below_cell g0 hbn hlt1
   replace g1 := below_cell g1 hbn hlt1
   replace g2 := below_cell g2 hbn hlt1
   clear hbn
   go_wp2_with fail
   refine (hvu w2).mono ?_
   rintro e w3 ⟨rfl, hbn⟩
   have hb3 := hb2.trans (hbn.mono hb2.size)
   have hlt3 : w.heap.size < w3.heap.size := by have := hbn.size; omega
   have hsz3 : w1.heap.size ≤ w3.heap.size := by have := hbn.size; omega
   replace g0 := below_cell g0 hbn hlt2
   replace g1 := below_cell g1 hbn hlt2
   replace g2 := below_cell g2 hbn hlt2
   clear hbn
   go_wp2_with fail
   refine (hvv w3).mono ?_
   rintro e w4 ⟨rfl, hbn⟩
   have hb4 := hb3.trans (hbn.mono hb3.size)
   have hlt4 : w.heap.size < w4.heap.size := by have := hbn.size; omega
   have hsz4 : w1.heap.size ≤ w4.heap.size := by have := hbn.size; omega
   replace g0 := below_cell g0 hbn hlt3
   replace g1 := below_cell g1 hbn hlt3
   replace g2 := below_cell g2 hbn hlt3
   clear hbn
   have q5 := (q1.out.below (show Below w.heap.size w1 w4 from by
    refine ⟨hb4.os.trans hb1.os.symm, hb4.tape.trans hb1.tape.symm, hb4.output.trans hb1.output.symm, by omega, fun z hz => (hb4.block z hz).trans (hb1.block z hz).symm⟩))
   go_wp2_with fail
   refine (hwx.out w4 _ q5).mono ?_
   rintro e w5 ⟨rfl, mm, rfl⟩
   replace hb4 := below_dn hb4 mm
   go_wp2
   go_ret
   exact ⟨ret_bool hpz.out.symm, hb4⟩
  | true =>
   have hmb : m ≤ 120 := by have := hm.out; omega
   by_cases c5 : s + n - 1 ≤ 40
   case neg =>
    rw [decide_eq_false c5] at hparts
    have hpz : ans = false := by rw [hparts]; simp
    replace hpz := hidI hpz
    clear hparts hlim
    replace c5 := hidI c5
    go_enter Tryz.func190, Tryz.ntmps190
    go_upto_region 1 with fail
    rw [← hw1]
    replace hw1 := hidI hw1
    go_wp2_with fail
    refine (hgr).mono ?_
    rintro e w2 ⟨rfl, hbn⟩
    have hb2 := hb1.trans (hbn.mono hb1.size)
    have hlt2 : w.heap.size < w2.heap.size := by have := hbn.size; omega
    have hsz2 : w1.heap.size ≤ w2.heap.size := by have := hbn.size; omega
    replace g0 := below_cell g0 hbn hlt1
    replace g1 := below_cell g1 hbn hlt1
    replace g2 := below_cell g2 hbn hlt1
    clear hbn
    go_wp2_with fail
    refine (hvu w2).mono ?_
    rintro e w3 ⟨rfl, hbn⟩
    have hb3 := hb2.trans (hbn.mono hb2.size)
    have hlt3 : w.heap.size < w3.heap.size := by have := hbn.size; omega
    have hsz3 : w1.heap.size ≤ w3.heap.size := by have := hbn.size; omega
    replace g0 := below_cell g0 hbn hlt2
    replace g1 := below_cell g1 hbn hlt2
    replace g2 := below_cell g2 hbn hlt2
    clear hbn
    go_wp2_with fail
    refine (hvv w3).mono ?_
    rintro e w4 ⟨rfl, hbn⟩
    have hb4 := hb3.trans (hbn.mono hb3.size)
    have hlt4 : w.heap.size < w4.heap.size := by have := hbn.size; omega
    have hsz4 : w1.heap.size ≤ w4.heap.size := by have := hbn.size; omega
    replace g0 := below_cell g0 hbn hlt3
    replace g1 := below_cell g1 hbn hlt3
    replace g2 := below_cell g2 hbn hlt3
    clear hbn
    have q5 := (q1.out.below (show Below w.heap.size w1 w4 from by
     refine ⟨hb4.os.trans hb1.os.symm, hb4.tape.trans hb1.tape.symm, hb4.output.trans hb1.output.symm, by omega, fun z hz => (hb4.block z hz).trans (hb1.block z hz).symm⟩))
    go_wp2_with fail
    refine (hwx.out w4 _ q5).mono ?_
    rintro e w5 ⟨rfl, mm, rfl⟩
    replace hb4 := below_dn hb4 mm
    go_wp2
    all_goals first | (exfalso; have := c5.out; omega) | skip
    go_ret
    exact ⟨ret_bool hpz.out.symm, hb4⟩
   rw [decide_eq_true c5] at hparts
   by_cases c6 : es.length + n ≤ 120
   case neg =>
    rw [decide_eq_false c6] at hparts
    have hpz : ans = false := by rw [hparts]; simp
    replace hpz := hidI hpz
    clear hparts hlim
    replace c5 := hidI c5
    replace c6 := hidI c6
    go_enter Tryz.func190, Tryz.ntmps190
    go_upto_region 1 with fail
    rw [← hw1]
    replace hw1 := hidI hw1
    go_wp2_with fail
    refine (hgr).mono ?_
    rintro e w2 ⟨rfl, hbn⟩
    have hb2 := hb1.trans (hbn.mono hb1.size)
    have hlt2 : w.heap.size < w2.heap.size := by have := hbn.size; omega
    have hsz2 : w1.heap.size ≤ w2.heap.size := by have := hbn.size; omega
    replace g0 := below_cell g0 hbn hlt1
    replace g1 := below_cell g1 hbn hlt1
    replace g2 := below_cell g2 hbn hlt1
    clear hbn
    go_wp2_with fail
    refine (hvu w2).mono ?_
    rintro e w3 ⟨rfl, hbn⟩
    have hb3 := hb2.trans (hbn.mono hb2.size)
    have hlt3 : w.heap.size < w3.heap.size := by have := hbn.size; omega
    have hsz3 : w1.heap.size ≤ w3.heap.size := by have := hbn.size; omega
    replace g0 := below_cell g0 hbn hlt2
    replace g1 := below_cell g1 hbn hlt2
    replace g2 := below_cell g2 hbn hlt2
    clear hbn
    go_wp2_with fail
    refine (hvv w3).mono ?_
    rintro e w4 ⟨rfl, hbn⟩
    have hb4 := hb3.trans (hbn.mono hb3.size)
    have hlt4 : w.heap.size < w4.heap.size := by have := hbn.size; omega
    have hsz4 : w1.heap.size ≤ w4.heap.size := by have := hbn.size; omega
    replace g0 := below_cell g0 hbn hlt3
    replace g1 := below_cell g1 hbn hlt3
    replace g2 := below_cell g2 hbn hlt3
    clear hbn
    have q5 := (q1.out.below (show Below w.heap.size w1 w4 from by
     refine ⟨hb4.os.trans hb1.os.symm, hb4.tape.trans hb1.tape.symm, hb4.output.trans hb1.output.symm, by omega, fun z hz => (hb4.block z hz).trans (hb1.block z hz).symm⟩))
    go_wp2_with fail
    refine (hwx.out w4 _ q5).mono ?_
    rintro e w5 ⟨rfl, mm, rfl⟩
    replace hb4 := below_dn hb4 mm
    go_wp2
    all_goals first | (exfalso; have := c5.out; omega) | skip
    go_ret
    refine ⟨ret_bool ?_, hb4⟩
    rw [hpz.out, decide_eq_false_iff_not]
    have := hm.out
    have := c6.out
    omega
   rw [decide_eq_true c6] at hparts
   have hpz : ans = true := by rw [hparts]; simp
   replace hpz := hidI hpz
   clear hparts hlim
   replace c5 := hidI c5
   replace c6 := hidI c6
   go_enter Tryz.func190, Tryz.ntmps190
   go_upto_region 1 with fail
   rw [← hw1]
   replace hw1 := hidI hw1
   go_wp2_with fail
   refine (hgr).mono ?_
   rintro e w2 ⟨rfl, hbn⟩
   have hb2 := hb1.trans (hbn.mono hb1.size)
   have hlt2 : w.heap.size < w2.heap.size := by have := hbn.size; omega
   have hsz2 : w1.heap.size ≤ w2.heap.size := by have := hbn.size; omega
   replace g0 := below_cell g0 hbn hlt1
   replace g1 := below_cell g1 hbn hlt1
   replace g2 := below_cell g2 hbn hlt1
   clear hbn
   go_wp2_with fail
   refine (hvu w2).mono ?_
   rintro e w3 ⟨rfl, hbn⟩
   have hb3 := hb2.trans (hbn.mono hb2.size)
   have hlt3 : w.heap.size < w3.heap.size := by have := hbn.size; omega
   have hsz3 : w1.heap.size ≤ w3.heap.size := by have := hbn.size; omega
   replace g0 := below_cell g0 hbn hlt2
   replace g1 := below_cell g1 hbn hlt2
   replace g2 := below_cell g2 hbn hlt2
   clear hbn
   go_wp2_with fail
   refine (hvv w3).mono ?_
   rintro e w4 ⟨rfl, hbn⟩
   have hb4 := hb3.trans (hbn.mono hb3.size)
   have hlt4 : w.heap.size < w4.heap.size := by have := hbn.size; omega
   have hsz4 : w1.heap.size ≤ w4.heap.size := by have := hbn.size; omega
   replace g0 := below_cell g0 hbn hlt3
   replace g1 := below_cell g1 hbn hlt3
   replace g2 := below_cell g2 hbn hlt3
   clear hbn
   have q5 := (q1.out.below (show Below w.heap.size w1 w4 from by
    refine ⟨hb4.os.trans hb1.os.symm, hb4.tape.trans hb1.tape.symm, hb4.output.trans hb1.output.symm, by omega, fun z hz => (hb4.block z hz).trans (hb1.block z hz).symm⟩))
   go_wp2_with fail
   refine (hwx.out w4 _ q5).mono ?_
   rintro e w5 ⟨rfl, mm, rfl⟩
   replace hb4 := below_dn hb4 mm
   go_wp2
   all_goals first | (exfalso; have := c5.out; omega) | skip
   go_ret
   refine ⟨ret_bool ?_, hb4⟩
   rw [hpz.out, decide_eq_true_eq]
   have := hm.out
   have := c6.out
   omega
theorem KeptBut.of_grown {B G g : Nat} {a b : World} (h : a.grownBy b (some g)) (hB : B ≤ a.heap.size) (hg : B ≤ g) : KeptBut B G a b :=
 ⟨h.os, h.tape, h.output, h.size, fun k hk _ => h.block k (by omega) (fun e => by cases e; omega)⟩
theorem KeptBut.set {B G j : Nat} {a b : World} {x : Value} (h : KeptBut B G a b) : KeptBut B G a (b.setCell ⟨G, j, none⟩ x) :=
 ⟨h.1, h.2.1, h.2.2.1, by simpa [World.setCell] using h.2.2.2.1, fun k hk hne => by rw [Below.heap_setCell _ _ _ _ hne]; exact h.2.2.2.2 k hk hne⟩
theorem PathSt.sized {w : World} {G A base : Nat} {r s y : Int} {v : Value} {es : List Ed} (h : PathSt w G A base r s y v es) (s' : Int) : PathSt (w.setCell ⟨G, 1, none⟩ (.int .i64 s')) G A base r s' y v es := by
 obtain ⟨h1, h2, h3, h4, h5, h6⟩ := h
 have hne : A ≠ G := by omega
 refine ⟨?_, by rw [Below.heap_setCell _ _ _ _ hne]; exact h2, OwnsS.other h3 (fun k hk => Below.heap_setCell _ _ _ _ (by rintro rfl; exact h4 hk)), h4, h5, ⟨h6.1, h6.2.1, by simpa [World.setCell] using h6.2.2⟩⟩
 have := heap_setCell_same w G 1 _ _ (.int .i64 s') h1
 simpa using this
theorem own_some {w : World} {base : Nat} {v : Value} {es : List Ed} (h : OwnsE w base v es) (h0 : es ≠ []) : ∃ g cap, v = .slice (some ⟨g, 0, none⟩) es.length cap ∧ base ≤ g ∧ g < w.heap.size := by
 have hlt := World.ownsRow.lt h
 obtain ⟨_, ⟨_, h2⟩ | ⟨g, cap, cur, hv, _⟩⟩ := h
 · exact absurd (List.length_eq_zero_iff.1 h2) h0
 · exact ⟨g, cap, hv, (hlt g (by rw [hv]; rfl)).1, (hlt g (by rw [hv]; rfl)).2⟩
theorem path_fin {w w4 w9 : World} {G R base cap : Nat} {r s' : Int} {E : List Ed} {b : Bool} (hG : G = w.heap.size) (hR : R = G + 1) (hbase : base = R + 1) (hb4 : Below w.heap.size w w4) (hk : KeptBut base G w4 w9) (a : Option Addr) (hown : OwnsE w9 base (.slice a E.length cap) E) (hl : E.length ≤ 1000000000) (hs : base ≤ w9.heap.size)
 (hgr : ∀ k, (Value.slice a E.length cap).ownBlock = some k → base ≤ k) :
 LwGraphBool w r s' E b (.returned (.tuple #[.agg #[.int .i64 r, .int .i64 s', .slice a E.length cap], .bool b])) (((w9.setCell ⟨R, 0, none⟩ (.int .i64 r)).setCell ⟨R, 1, none⟩ (.int .i64 s')).setCell ⟨R, 2, none⟩ (.slice a E.length cap)) := by
 have hb9 : Below w.heap.size w w9 := hb4.trans (by have := hk.below (show G ≤ base by omega); rw [hG] at this; exact this)
 refine ⟨a, cap, rfl, ?_, below_set3 hb9 (by omega)⟩
 have hrow : OwnsE (((w9.setCell ⟨R, 0, none⟩ (.int .i64 r)).setCell ⟨R, 1, none⟩ (.int .i64 s')).setCell ⟨R, 2, none⟩ (.slice a E.length cap)) base (.slice a E.length cap) E := OwnsS.other hown (fun k hk => by
  have := hgr k hk
  rw [heap_set3 (by omega)])
 exact (OwnsS.row hrow (by omega)).wide (by omega) (Nat.le_refl _)
set_option maxRecDepth 100000 in
set_option maxHeartbeats 6400000 in
theorem progAddPath (w : World) (r s u v : Int) (va vw : Value) (es : List Ed) (wd : List Int) (h : ReadE w.heap.size w va es) (hl : es.length ≤ 10000000) (hw : ReadI w.heap.size w vw wd) (hwl : wd.length ≤ 10000000) :
 Calls Tryz.prog 170 #[.agg #[.int .i64 r, .int .i64 s, va], .int .i64 u, vw, .int .i64 v] w (LwGraphBool w r (pthS r s es u wd v) (pthE r s es u wd v) (tkP r s es u wd v)) := by
 obtain ⟨a, cap, rfl, hnc⟩ := h.form
 obtain ⟨m, hm⟩ := exq es.length
 have h0 := h
 rw [← hm] at h
 obtain ⟨w1, hw1⟩ := exq ((w.alloc (.cells #[.int .i64 r, .int .i64 s, .slice a m cap] 26)).alloc (.cells #[.int .i64 0, .int .i64 0, .slice none 0 0] 26))
 have hb1 : Below w.heap.size w w1 := by rw [hw1]; exact ((Below.refl _ _).alloc (Nat.le_refl _) _).alloc (by simp) _
 have hs1 : w1.heap.size = w.heap.size + 1 + 1 := by rw [hw1]; simp
 have hg := heap_box w (.cells #[.int .i64 r, .int .i64 s, .slice a m cap] 26) (.cells #[.int .i64 0, .int .i64 0, .slice none 0 0] 26)
 have hk := heap_alloc_new (w.alloc (.cells #[.int .i64 r, .int .i64 s, .slice a m cap] 26)) (.cells #[.int .i64 0, .int .i64 0, .slice none 0 0] 26)
 rw [← hw1] at hg hk
 rw [show (w.alloc (.cells #[.int .i64 r, .int .i64 s, .slice a m cap] 26)).heap.size = w.heap.size + 1 by simp] at hk
 have g0 : w1.cell? ⟨w.heap.size, 0, none⟩ = some (.int .i64 r) := by simpa using cell_of_heap hg 0
 have g1 : w1.cell? ⟨w.heap.size, 1, none⟩ = some (.int .i64 s) := by simpa using cell_of_heap hg 1
 have g2 : w1.cell? ⟨w.heap.size, 2, none⟩ = some (.slice a m cap) := by simpa using cell_of_heap hg 2
 have hcopy := gpCopyO w1 r s (.slice a es.length cap) es ((h0.below hb1).mono hb1.size) (by omega)
 rw [← hm] at hcopy ⊢
 obtain ⟨B, hB⟩ := exq (tkP r s es u wd v)
 obtain ⟨PS, hPS⟩ := exq (pthS r s es u wd v)
 obtain ⟨PE, hPE⟩ := exq (pthE r s es u wd v)
 rw [← hB, ← hPS, ← hPE]
 have hfalse : B = false → PS = s ∧ PE = es := fun hf => by
  rw [hPS, hPE]; unfold pthS pthE; rw [← hB, hf]; exact ⟨rfl, rfl⟩
 have htrue : B = true → PS = s + wd.length - 1 ∧ PE = putAll es (pathK s u v wd wd.length) := fun hf => by
  rw [hPS, hPE]; unfold pthS pthE; rw [← hB, hf]; exact ⟨rfl, rfl⟩
 replace hm := hidI hm
 replace hB := hidI hB
 replace hPS := hidI hPS
 replace hPE := hidI hPE
 replace hfalse := hidI hfalse
 replace htrue := hidI htrue
 replace h := hidI h
 replace h0 := hidI h0
 replace hg := hidI hg
 replace hk := hidI hk
 obtain ⟨hwz, aw, cw, rfl, hwn, hwc⟩ := hw
 have hw9 : ReadI w.heap.size w (.slice aw wd.length cw) wd := ⟨hwz, aw, cw, rfl, hwn, hwc⟩
 clear hwn hwc hwz
 obtain ⟨n, hn⟩ := exq wd.length
 rw [← hn] at hw9 hwl ⊢
 replace hn := hidI hn
 replace hw9 := hidI hw9
 replace hnc := hidI hnc
 replace hs1 := hidI hs1
 go_enter Tryz.func170, Tryz.ntmps170
 go_upto_region 1 with fail
 rw [← hw1]
 replace hw1 := hidI hw1
 go_wp2_with fail
 refine hcopy.mono ?_
 rintro e w2 ⟨b, cap2, rfl, hown2, hb2⟩
 rw [← hm.out]
 rw [← hm.out] at hown2
 clear hcopy
 have hlt2 := World.ownsRow.lt hown2
 have hG2 : w2.heap[w.heap.size]? = some (.cells #[.int .i64 r, .int .i64 s, .slice a m cap] 26 (0, 0)) := by rw [hb2.block _ (by have := hs1.out; omega)]; exact hg.out
 have hR2 : w2.heap[w.heap.size + 1]? = some (.cells #[.int .i64 0, .int .i64 0, .slice none 0 0] 26 (0, 0)) := by rw [hb2.block _ (by have := hs1.out; omega)]; exact hk.out
 obtain ⟨q0, q1, q2⟩ := cell3 hG2
 have f1 := fun j => frozen_of_row w2 w.heap.size j _ _ hG2
 simp at q0 q1 q2
 obtain ⟨w3, hw3⟩ := exq (((w2.setCell ⟨w.heap.size, 0, none⟩ (.int .i64 r)).setCell ⟨w.heap.size, 1, none⟩ (.int .i64 s)).setCell ⟨w.heap.size, 2, none⟩ (.slice b m cap2))
 have hs3 : w3.heap.size = w2.heap.size := by rw [hw3]; exact size_set3
 have hG3 : w3.heap[w.heap.size]? = some (.cells #[.int .i64 r, .int .i64 s, .slice b m cap2] 26 (0, 0)) := by rw [hw3]; exact set3 hG2 _ _ _
 have hR3 : w3.heap[w.heap.size + 1]? = some (.cells #[.int .i64 0, .int .i64 0, .slice none 0 0] 26 (0, 0)) := by rw [hw3, heap_set3 (by omega)]; exact hR2
 have hb3 : Below w.heap.size w w3 := by rw [hw3]; exact below_set3 (hb1.trans (hb2.mono hb1.size)) (Nat.le_refl _)
 have hown3 : OwnsE w3 w1.heap.size (.slice b m cap2) es := by
  rw [hw3]
  exact OwnsS.other hown2 (fun k hk => by
   have := (hlt2 k hk).1
   rw [heap_set3 (by have := hs1.out; omega)])
 have hs23 : w1.heap.size ≤ w3.heap.size := by rw [hs3]; exact hb2.size
 have hrow3 : ReadE w3.heap.size w3 (.slice b m cap2) es := (OwnsS.row hown3 (by have := hm.out; omega)).read
 obtain ⟨p0, p1, p2⟩ := cell3 hG3
 simp at p0 p1 p2
 have htk := takes_any w3 r s u v b m cap2 es (.slice aw n cw) wd hrow3 hm.out hl ((hw9.out.below hb3).mono hb3.size) (by have := hn.out; omega)
 rw [← hB.out] at htk
 replace hG2 := hidI hG2
 replace hR2 := hidI hR2
 replace hG3 := hidI hG3
 replace hR3 := hidI hR3
 replace hb3 := hidI hb3
 replace hown2 := hidI hown2
 replace hown3 := hidI hown3
 replace hrow3 := hidI hrow3
 replace hlt2 := hidI hlt2
 replace hs3 := hidI hs3
 go_upto_region 2 with fail
 rw [← hw3]
 replace hw3 := hidI hw3
 clear q0 q1 q2 f1 g0 g1 g2
 go_wp2_with fail
 refine htk.mono ?_
 rintro e w4 ⟨rfl, hb4⟩
 clear htk
 have hs4 := hb4.size
 have hG4 : w4.heap[w.heap.size]? = some (.cells #[.int .i64 r, .int .i64 s, .slice b m cap2] 26 (0, 0)) := by rw [hb4.block _ (by have := hs1.out; omega)]; exact hG3.out
 have hR4 : w4.heap[w.heap.size + 1]? = some (.cells #[.int .i64 0, .int .i64 0, .slice none 0 0] 26 (0, 0)) := by rw [hb4.block _ (by have := hs1.out; omega)]; exact hR3.out
 have hown4 : OwnsE w4 w1.heap.size (.slice b m cap2) es := OwnsS.later hown3.out hb4 (Nat.le_refl _)
 have hbw4 : Below w.heap.size w w4 := hb3.out.trans (hb4.mono hb3.out.size)
 have hlt4 : ∀ k, (Value.slice b m cap2).ownBlock = some k → w1.heap.size ≤ k ∧ k < w4.heap.size := World.ownsRow.lt hown4
 replace p0 := below_cell p0 hb4 (by have := hs1.out; omega)
 replace p1 := below_cell p1 hb4 (by have := hs1.out; omega)
 replace p2 := below_cell p2 hb4 (by have := hs1.out; omega)
 have hbase : w1.heap.size = w.heap.size + 1 + 1 := hs1.out
 clear hb4
 cases B with
 | false =>
  obtain ⟨hPS9, hPE9⟩ := hfalse.out rfl
  subst hPS9 hPE9
  obtain ⟨y0, y1, y2⟩ := cell3 hR4
  have f2 := fun j => frozen_of_row w4 (w.heap.size + 1) j _ _ hR4
  simp at y0 y1 y2
  have hfin := path_fin (w := w) (w4 := w4) (w9 := w4) (G := w.heap.size) (R := w.heap.size + 1) (base := w1.heap.size) (cap := cap2) (r := r) (s' := PS) (E := PE) (b := false) rfl rfl hbase hbw4 (KeptBut.refl _ _ _) b (by have := hown4; rw [hm.out] at this; exact this) (by omega) (by omega) (fun k hk => (hlt4 k (by have := hm.out; rw [this]; exact hk)).1)
  rw [← hm.out] at hfin
  replace hfin := hidI hfin
  replace hR4 := hidI hR4
  replace hG4 := hidI hG4
  replace hown4 := hidI hown4
  replace hlt4 := hidI hlt4
  replace hbase := hidI hbase
  go_wp2
  (try simp only [Exit.inBlock, Exit.then])
  refine ret_cell2 (x := .bool false) rfl rfl rfl (set3 hR4.out _ _ _) Tryz.underlying26 sizeGraph ?_
  exact hfin.out
 | true =>
  obtain ⟨hPS9, hPE9⟩ := htrue.out rfl
  obtain ⟨hgr, hu, hv, hiw, hne, hsz, hel, hn24, hr1, hr3, hs1_, hs40⟩ := tkP_yes (hB.out).symm
  have hasc := asc_of_gr hgr
  rw [← hn.out] at hne hsz hel hn24 hPS9
  obtain ⟨k1, hk1⟩ : ∃ k1, n = k1 + 1 := ⟨n - 1, by omega⟩
  obtain ⟨bw, ow, rfl, hbw, _⟩ := hw9.out.at2 0 (by have := hn.out; omega)
  have hwc : ∀ j, j < n → ∀ W, Below w.heap.size w W → W.cell? ⟨bw, ow + j, none⟩ = some (.int .i64 (wd.getD j 0)) := fun j hj W hW => by
   obtain ⟨b', o', e, _, hc⟩ := hw9.out.at2 j (by have := hn.out; omega)
   cases e
   exact below_cell hc hW hbw
  have hlet : ∀ j, j < n → wd.getD j 0 ≠ 0 ∧ -3 ≤ wd.getD j 0 ∧ wd.getD j 0 ≤ 3 := fun j hj => isW_let hiw ⟨hr1, hr3⟩ (by have := hn.out; omega)
  have hcapw : n ≤ cw := by
   obtain ⟨_, a', c', e, ⟨_, h2⟩, _⟩ := hw9.out
   cases e
   have := hn.out
   omega
  subst hk1
  obtain ⟨w5, hw5⟩ := exq (w4.alloc (.cells #[.int .i64 u] 3))
  have hA5 : w5.heap[w4.heap.size]? = some (.cells #[.int .i64 u] 3 (0, 0)) := by rw [hw5]; exact heap_alloc_new _ _
  have hs5 : w5.heap.size = w4.heap.size + 1 := by rw [hw5]; simp
  have hb45 : Below w4.heap.size w4 w5 := by rw [hw5]; exact (Below.refl _ _).alloc (Nat.le_refl _) _
  have hst5 : PathSt w5 w.heap.size w4.heap.size w1.heap.size r s u (.slice b m cap2) es :=
   ⟨by rw [hb45.block _ (by omega)]; exact hG4, hA5, OwnsS.later hown4 hb45 (Nat.le_refl _), fun e => by have := hlt4 _ e; omega, fun e => by have := hlt4 _ e; omega, ⟨by omega, by omega, by omega⟩⟩
  have hbw5 : Below w.heap.size w w5 := hbw4.trans (hb45.mono hbw4.size)
  have hR5 : w5.heap[w.heap.size + 1]? = some (.cells #[.int .i64 0, .int .i64 0, .slice none 0 0] 26 (0, 0)) := by rw [hb45.block _ (by omega)]; exact hR4
  have hst0 : Hid (∃ v', PathSt w5 w.heap.size w4.heap.size w1.heap.size r (s + (0 : Nat)) (atP s u 0) v' (es ++ pathK s u v wd 0)) := hidI ⟨_, by
   have e1 : s + ((0 : Nat) : Int) = s := by simp
   have e2 : atP s u 0 = u := rfl
   have e3 : es ++ pathK s u v wd 0 = es := by simp [pathK]
   rw [e1, e2, e3]
   exact hst5⟩
  have hk0 : Hid (KeptBut w1.heap.size w.heap.size w5 w5) := hidI (KeptBut.refl _ _ _)
  obtain ⟨A, hA⟩ := exq w4.heap.size
  rw [← hA] at hst0
  have hA5s : A < w5.heap.size := by omega
  have hb1A : w1.heap.size ≤ A := by omega
  replace hst5 := hidI hst5
  replace hR5 := hidI hR5
  replace hA5 := hidI hA5
  replace hbw5 := hidI hbw5
  replace hR4 := hidI hR4
  replace hG4 := hidI hG4
  replace hown4 := hidI hown4
  replace hlt4 := hidI hlt4
  replace hb45 := hidI hb45
  replace hbw4 := hidI hbw4
  replace hbase := hidI hbase
  replace hs5 := hidI hs5
  replace hwc := hidI hwc
  replace hlet := hidI hlet
  replace hPS9 := hidI hPS9
  replace hPE9 := hidI hPE9
  replace hasc := hidI hasc
  replace hgr := hidI hgr
  replace hiw := hidI hiw
  replace hsz := hidI hsz
  replace hel := hidI hel
  replace hne := hidI hne
  go_upto_region 6 with fail
  rw [← hw5, ← hA]
  replace hw5 := hidI hw5
  replace hA := hidI hA
  clear p0 p1 p2
  go_wp2
  go_loopg [14, 33] k1 (fun gg x i wr => ∃ k : Nat, k + gg = k1 ∧ i = .int .i64 k ∧ Hid (∃ v', PathSt wr w.heap.size A w1.heap.size r (s + (k : Nat)) (atP s u k) v' (es ++ pathK s u v wd k)) ∧ Hid (KeptBut w1.heap.size w.heap.size w5 wr))
  case atStart => exact ⟨0, by omega, rfl, hst0, hk0⟩
  case round =>
   clear hst0 hk0
   obtain ⟨k, hk9, rfl, hst, hkb⟩ := hrel
   obtain ⟨v6, hP⟩ := hst.out
   have hbr : Below w.heap.size w wr := hbw5.out.trans (hkb.out.below (by have := hbase.out; omega))
   obtain ⟨z, hz⟩ := exq (wd.getD k 0)
   have cz := hwc.out k (by omega) wr hbr
   have hzb := hlet.out k (by omega)
   rw [← hz] at cz hzb
   obtain ⟨sk, hsk⟩ : ∃ x : Int, x = s + (k : Nat) := ⟨_, rfl⟩
   obtain ⟨y, hy⟩ := exq (atP s u k)
   obtain ⟨L, hL⟩ := exq (es ++ pathK s u v wd k)
   have hLl : L.length ≤ 1000 := by rw [hL, List.length_append, pathK_length]; have := hel.out; omega
   rw [← hsk, ← hy, ← hL] at hP
   have hskb : 1 ≤ sk ∧ sk ≤ 100 := by omega
   by_cases hlt : k < k1
   · have hki : (k : Int) < (k1 : Int) := by omega
     have hsz2 := hP.sized (sk + 1)
     have hbx := hP.box
     have c1 := cell_of_heap hbx 1
     simp at c1
     have ff := fun j => frozen_of_row wr w.heap.size j _ _ hbx
     obtain ⟨w6, hw6⟩ := exq (wr.setCell ⟨w.heap.size, 1, none⟩ (.int .i64 (sk + 1)))
     rw [← hw6] at hsz2
     have c6 := cell_of_heap hsz2.box 1
     simp at c6
     have hk6 : KeptBut w1.heap.size w.heap.size w5 w6 := by rw [hw6]; exact hkb.out.set
     have hcall := leadTo_any w6 w.heap.size A w1.heap.size r (sk + 1) y sk z v6 L hsz2 (by omega) (by omega) (by omega)
     have hned : L ++ [eB y z sk] = es ++ pathK s u v wd (k + 1) := by
      rw [pathK_succ, ← List.append_assoc, ← hL]
      congr 1
      unfold edP
      rw [← hy, ← hz, nxP_mid (by have := hn.out; omega), ← hsk]
     have hnx : ∀ {w' : World} {v' : Value}, PathSt w' w.heap.size A w1.heap.size r (sk + 1) sk v' (L ++ [eB y z sk]) → PathSt w' w.heap.size A w1.heap.size r (s + ((k + 1 : Nat) : Int)) (atP s u (k + 1)) v' (es ++ pathK s u v wd (k + 1)) := fun h => by
      have e1 : s + ((k + 1 : Nat) : Int) = sk + 1 := by rw [hsk]; push_cast; omega
      have e2 : atP s u (k + 1) = sk := by rw [atP_succ, hsk]
      rw [e1, e2, ← hned]; exact h
     replace hnx : Hid (∀ {w' : World} {v' : Value}, PathSt w' w.heap.size A w1.heap.size r (sk + 1) sk v' (L ++ [eB y z sk]) → PathSt w' w.heap.size A w1.heap.size r (s + ((k + 1 : Nat) : Int)) (atP s u (k + 1)) v' (es ++ pathK s u v wd (k + 1))) := hidI hnx
     replace hned := hidI hned
     replace hsz2 := hidI hsz2
     replace hbx := hidI hbx
     replace hP := hidI hP
     replace hk6 := hidI hk6
     replace hbr := hidI hbr
     replace hz := hidI hz
     replace hy := hidI hy
     replace hL := hidI hL
     replace hsk := hidI hsk
     replace hk9 := hidI hk9
     clear hst
     go_upto_region 11 with fail
     rw [← hw6]
     replace hw6 := hidI hw6
     clear c1 ff cz
     go_wp2_with fail
     refine hcall.mono ?_
     rintro e w7 ⟨rfl, ⟨v7, hP7⟩, hk7⟩
     have hst7 : Hid (∃ v', PathSt w7 w.heap.size A w1.heap.size r (s + ((k + 1 : Nat) : Int)) (atP s u (k + 1)) v' (es ++ pathK s u v wd (k + 1))) := hidI ⟨v7, hnx.out hP7⟩
     have hkb7 := hidI (hk6.out.trans hk7)
     clear hcall hP7 hk7 hnx
     go_wp2
     go_roundg (k1 - (k + 1))
     case rel => exact ⟨k + 1, by have := hk9.out; omega, by go_num, hst7, hkb7⟩
     case measure => have := hk9.out; omega
   · obtain rfl : k = k1 := by omega
     have hki : ¬ (k : Int) < (k : Int) := by omega
     have hcall := leadTo_any wr w.heap.size A w1.heap.size r sk y v z v6 L hP (by omega) (by omega) (by omega)
     obtain ⟨E0, hE0⟩ := exq (es ++ pathK s u v wd (k + 1))
     have hned : L ++ [eB y z v] = E0 := by
      rw [hE0, pathK_succ, ← List.append_assoc, ← hL]
      congr 1
      unfold edP
      rw [← hy, ← hz, nxP_last (by have := hn.out; omega)]
     rw [hned] at hcall
     have hE0l : E0.length ≤ 1000 := by rw [hE0, List.length_append, pathK_length]; have := hel.out; omega
     have hE0n : E0 ≠ [] := by rw [← hned]; simp
     have hPSk : PS = sk := by rw [hPS9.out, hsk]; push_cast; omega
     have hput : ∀ ds : List Ed, ds.Perm E0 → ds.Pairwise (fun a b => ¬ cmpE b a < 0) → dd ds ds.length = PE := fun ds h1 h2 => by
      rw [hPE9.out, ← hn.out]
      exact sort_put hasc.out (by rw [← hE0]; exact h1) h2
     replace hput := hidI hput
     replace hE0 := hidI hE0
     replace hned := hidI hned
     replace hP := hidI hP
     replace hbr := hidI hbr
     replace hz := hidI hz
     replace hy := hidI hy
     replace hL := hidI hL
     replace hsk := hidI hsk
     replace hk9 := hidI hk9
     replace hPSk := hidI hPSk
     clear hst
     go_wp2_with fail
     refine hcall.mono ?_
     rintro e w7 ⟨rfl, ⟨v7, hP7⟩, hk7⟩
     clear hcall cz
     have hk57 := hkb.out.trans hk7
     obtain ⟨g, cap7, rfl, hgb, hgs⟩ := own_some hP7.row hE0n
     have hsort := sortE_any w7 w1.heap.size g cap7 E0 hP7.row (by omega)
     obtain ⟨N, hN⟩ := exq E0.length
     have hG7 := hP7.box
     have hGg : w.heap.size ≠ g := fun e => hP7.vG (by rw [e]; rfl)
     have hGA7 := hP7.GA
     rw [← hN] at hsort hG7 hE0l
     have c2 := cell_of_heap hG7 2
     simp at c2
     replace hP7 := hidI hP7
     replace hG7 := hidI hG7
     replace hN := hidI hN
     replace hE0n := hidI hE0n
     replace hk57 := hidI hk57
     replace hGg := hidI hGg
     clear hk7
     go_wp2_with fail
     refine hsort.mono ?_
     rintro e w8 ⟨rfl, hg8, ds, hperm, hsrt, hown8⟩
     clear hsort c2
     have hdl : ds.length = N := by rw [hN.out]; exact hperm.length_eq
     have hown8' : OwnsE w8 w1.heap.size (.slice (some ⟨g, 0, none⟩) ds.length cap7) ds := by rw [hdl]; rw [← hN.out] at hown8; exact hown8
     have hcomp := compactE_any w8 w1.heap.size g cap7 ds hown8' (by omega)
     have hE9 := hput.out ds hperm (hsrt.imp fun h => by omega)
     rw [hE9, hdl] at hcomp
     have hk58 := hk57.out.trans (KeptBut.of_grown (B := w1.heap.size) (G := w.heap.size) hg8 (by omega) hgb)
     have hG8 : w8.heap[w.heap.size]? = some (.cells #[.int .i64 r, .int .i64 sk, .slice (some ⟨g, 0, none⟩) N cap7] 26 (0, 0)) := by
      rw [hg8.block _ (by omega) (fun e => hGg.out (by cases e; rfl))]; exact hG7.out
     have hs8 := hg8.size
     have c2 := cell_of_heap hG8 2
     simp at c2
     replace hG8 := hidI hG8
     replace hg8 := hidI hg8
     replace hown8 := hidI hown8
     replace hown8' := hidI hown8'
     replace hperm := hidI hperm
     replace hsrt := hidI hsrt
     replace hk58 := hidI hk58
     replace hdl := hidI hdl
     replace hE9 := hidI hE9
     go_wp2_with fail
     refine hcomp.mono ?_
     rintro e w9 ⟨rfl, hg9, hown9⟩
     clear hcomp c2
     have hs9 := hg9.size
     have hk59 := (hk58.out.trans (KeptBut.of_grown (B := w1.heap.size) (G := w.heap.size) hg9 (by omega) hgb)).set (j := 2) (x := .slice (some ⟨g, 0, none⟩) PE.length cap7)
     have hG9 : w9.heap[w.heap.size]? = some (.cells #[.int .i64 r, .int .i64 sk, .slice (some ⟨g, 0, none⟩) N cap7] 26 (0, 0)) := by
      rw [hg9.block _ (by omega) (fun e => hGg.out (by cases e; rfl))]; exact hG8.out
     obtain ⟨w10, hw10⟩ := exq (w9.setCell ⟨w.heap.size, 2, none⟩ (.slice (some ⟨g, 0, none⟩) PE.length cap7))
     rw [← hw10] at hk59
     have hG10 : w10.heap[w.heap.size]? = some (.cells #[.int .i64 r, .int .i64 sk, .slice (some ⟨g, 0, none⟩) PE.length cap7] 26 (0, 0)) := by
      rw [hw10]
      have := heap_setCell_same w9 w.heap.size 2 _ _ (.slice (some ⟨g, 0, none⟩) PE.length cap7) hG9
      simpa using this
     have hR10 : w10.heap[w.heap.size + 1]? = some (.cells #[.int .i64 0, .int .i64 0, .slice none 0 0] 26 (0, 0)) := by
      rw [hk59.2.2.2.2 _ (by have := hbase.out; omega) (by omega)]; exact hR5.out
     have hown10 : OwnsE w10 w1.heap.size (.slice (some ⟨g, 0, none⟩) PE.length cap7) PE := by
      rw [hw10]
      exact OwnsS.other hown9 (fun k hk => by
       cases hk
       exact Below.heap_setCell _ _ _ _ (fun e => hGg.out e.symm))
     have hs10 : w10.heap.size = w9.heap.size := by rw [hw10]; simp [World.setCell]
     have hPEl : PE.length ≤ 1000000000 := by rw [hPE.out]; have := pthE_length r s es u wd v; have := hn.out; omega
     have hfin := path_fin (w := w) (w4 := w5) (w9 := w10) (G := w.heap.size) (R := w.heap.size + 1) (base := w1.heap.size) (cap := cap7) (r := r) (s' := sk) (E := PE) (b := true) rfl rfl hbase.out hbw5.out hk59 (some ⟨g, 0, none⟩) hown10 hPEl (by omega) (fun k hk => by cases hk; exact hgb)
     have f9 := fun j => frozen_of_row w9 w.heap.size j _ _ hG9
     have c9 := cell_of_heap hG9 2
     obtain ⟨d0, d1, d2⟩ := cell3 hG10
     obtain ⟨y0, y1, y2⟩ := cell3 hR10
     have f10 := fun j => frozen_of_row w10 (w.heap.size + 1) j _ _ hR10
     simp at c9 d0 d1 d2 y0 y1 y2
     have hPS8 := hPSk.out
     replace hfin := hidI hfin
     replace hG9 := hidI hG9
     replace hG10 := hidI hG10
     replace hR10 := hidI hR10
     replace hown9 := hidI hown9
     replace hown10 := hidI hown10
     replace hk59 := hidI hk59
     replace hg9 := hidI hg9
     replace hs10 := hidI hs10
     replace hPS8 := hidI hPS8
     go_upto_region 16 with fail
     rw [← hw10]
     replace hw10 := hidI hw10
     clear f9 c9
     go_wp2
     (try simp only [Exit.inBlock, Exit.then])
     refine ret_cell2 (x := .bool true) rfl rfl rfl (set3 hR10.out _ _ _) Tryz.underlying26 sizeGraph ?_
     rw [hPS8.out]
     exact hfin.out
set_option maxRecDepth 100000 in
set_option maxHeartbeats 6400000 in
theorem specAddPath (w : World) (r s u v : Int) (va vw : Value) (es : List Ed) (wd : List Int) (h : ReadE w.heap.size w va es) (hs : -9223372036854775808 ≤ s ∧ s ≤ 9223372036854775807) (hl : es.length ≤ 10000000) (hw : ReadI w.heap.size w vw wd) (hwl : wd.length ≤ 10000000) :
 Calls Tryz.prog 165 #[.agg #[.int .i64 r, .int .i64 s, va], .int .i64 u, vw, .int .i64 v] w (LwGraphBool w r (pthS r s es u wd v) (pthE r s es u wd v) (tkP r s es u wd v)) := by
 obtain ⟨a, cap, rfl, hnc⟩ := h.form
 obtain ⟨m, hm⟩ := exq es.length
 have h0 := h
 rw [← hm] at h
 obtain ⟨w1, hw1⟩ := exq ((w.alloc (.cells #[.int .i64 r, .int .i64 s, .slice a m cap] 26)).alloc (.cells #[.int .i64 0, .int .i64 0, .slice none 0 0] 26))
 have hb1 : Below w.heap.size w w1 := by rw [hw1]; exact ((Below.refl _ _).alloc (Nat.le_refl _) _).alloc (by simp) _
 have hs1 : w1.heap.size = w.heap.size + 1 + 1 := by rw [hw1]; simp
 have hg := heap_box w (.cells #[.int .i64 r, .int .i64 s, .slice a m cap] 26) (.cells #[.int .i64 0, .int .i64 0, .slice none 0 0] 26)
 have hk := heap_alloc_new (w.alloc (.cells #[.int .i64 r, .int .i64 s, .slice a m cap] 26)) (.cells #[.int .i64 0, .int .i64 0, .slice none 0 0] 26)
 rw [← hw1] at hg hk
 rw [show (w.alloc (.cells #[.int .i64 r, .int .i64 s, .slice a m cap] 26)).heap.size = w.heap.size + 1 by simp] at hk
 have g0 : w1.cell? ⟨w.heap.size, 0, none⟩ = some (.int .i64 r) := by simpa using cell_of_heap hg 0
 have g1 : w1.cell? ⟨w.heap.size, 1, none⟩ = some (.int .i64 s) := by simpa using cell_of_heap hg 1
 have g2 : w1.cell? ⟨w.heap.size, 2, none⟩ = some (.slice a m cap) := by simpa using cell_of_heap hg 2
 have hcopy := specCopy w1 r s (.slice a es.length cap) es ((h0.below hb1).mono hb1.size) (by omega)
 rw [← hm] at hcopy ⊢
 obtain ⟨B, hB⟩ := exq (tkP r s es u wd v)
 obtain ⟨PS, hPS⟩ := exq (pthS r s es u wd v)
 obtain ⟨PE, hPE⟩ := exq (pthE r s es u wd v)
 obtain ⟨n, hn⟩ := exq wd.length
 have hparts : B = (isGr r s es && decide (0 ≤ u ∧ u < s) && decide (0 ≤ v ∧ v < s) && isW r wd && decide (n ≠ 0) && decide (s + n - 1 ≤ 40) && decide (es.length + n ≤ 120)) := by rw [hB, hn]; rfl
 rw [← hB, ← hPS, ← hPE]
 have hfalse : B = false → PS = s ∧ PE = es := fun hf => by
  rw [hPS, hPE]; unfold pthS pthE; rw [← hB, hf]; exact ⟨rfl, rfl⟩
 have htrue : B = true → PS = s + n - 1 ∧ PE = putAll es (pathK s u v wd n) := fun hf => by
  rw [hPS, hPE, hn]; unfold pthS pthE; rw [← hB, hf]; exact ⟨rfl, rfl⟩
 have hlim : isGr r s es = true → 1 ≤ s ∧ s ≤ 40 ∧ es.length ≤ 120 ∧ 1 ≤ r ∧ r ≤ 3 := fun h => by obtain ⟨_, g0, g1, g2, g3, g4⟩ := isGr_iff.1 h; exact ⟨g2, g3, g4, g0, g1⟩
 obtain ⟨b1, hb1_⟩ := exq (isGr r s es)
 obtain ⟨b4, hb4_⟩ := exq (isW r wd)
 obtain ⟨hwz, aw, cw, rfl, hwn, hwc⟩ := hw
 have hw9 : ReadI w.heap.size w (.slice aw wd.length cw) wd := ⟨hwz, aw, cw, rfl, hwn, hwc⟩
 clear hwn hwc hwz
 rw [← hn] at hw9 hwl ⊢
 have hwx := fun W B (hr : ReadI B W (.slice aw n cw) wd) => specIsW W B _ wd r hr
 have hgrx := fun W (hr : ReadE W.heap.size W (.slice a es.length cap) es) => specIsGr W r s _ es hr hs (by omega)
 rw [← hb1_] at hparts hlim
 rw [← hb4_] at hparts
 rw [← hm] at hgrx
 simp only [← hb4_] at hwx
 simp only [← hb1_] at hgrx
 have hrd1 : ReadE w.heap.size w1 (.slice a m cap) es := h.below hb1
 replace hm := hidI hm
 replace hB := hidI hB
 replace hPS := hidI hPS
 replace hPE := hidI hPE
 replace hfalse := hidI hfalse
 replace htrue := hidI htrue
 replace hparts := hidI hparts
 replace hlim := hidI hlim
 replace h := hidI h
 replace h0 := hidI h0
 replace hg := hidI hg
 replace hk := hidI hk
 replace hn := hidI hn
 replace hw9 := hidI hw9
 replace hnc := hidI hnc
 replace hs1 := hidI hs1
 replace hwx := hidI hwx
 replace hgrx := hidI hgrx
 replace hrd1 := hidI hrd1
 replace hb1_ := hidI hb1_
 replace hb4_ := hidI hb4_
 go_enter Tryz.func165, Tryz.ntmps165
 go_upto_region 1 with fail
 rw [← hw1]
 replace hw1 := hidI hw1
 go_wp2_with fail
 refine hcopy.mono ?_
 rintro e w2 ⟨b, cap2, rfl, hrow2, hb2⟩
 rw [← hm.out]
 rw [← hm.out] at hrow2
 clear hcopy
 have hs2 := hb2.size
 replace g0 := below_cell g0 hb2 (by have := hs1.out; omega)
 replace g1 := below_cell g1 hb2 (by have := hs1.out; omega)
 replace g2 := below_cell g2 hb2 (by have := hs1.out; omega)
 have hR2 : w2.heap[w.heap.size + 1]? = some (.cells #[.int .i64 0, .int .i64 0, .slice none 0 0] 26 (0, 0)) := by rw [hb2.block _ (by have := hs1.out; omega)]; exact hk.out
 obtain ⟨w3, hw3⟩ := exq (w2.alloc (.cells #[.int .i64 r, .int .i64 s, .slice b m cap2] 26))
 have hb3 : Below w2.heap.size w2 w3 := by rw [hw3]; exact (Below.refl _ _).alloc (Nat.le_refl _) _
 have hs3 : w3.heap.size = w2.heap.size + 1 := by rw [hw3]; simp
 obtain ⟨X, hX⟩ := exq w2.heap.size
 have hX3 : w3.heap[X]? = some (.cells #[.int .i64 r, .int .i64 s, .slice b m cap2] 26 (0, 0)) := by rw [hw3, hX]; exact heap_alloc_new _ _
 replace g0 := below_cell g0 hb3 (by have := hs1.out; omega)
 replace g1 := below_cell g1 hb3 (by have := hs1.out; omega)
 replace g2 := below_cell g2 hb3 (by have := hs1.out; omega)
 have hR3 : w3.heap[w.heap.size + 1]? = some (.cells #[.int .i64 0, .int .i64 0, .slice none 0 0] 26 (0, 0)) := by rw [hb3.block _ (by have := hs1.out; omega)]; exact hR2
 have hbw3 : Below w.heap.size w w3 := (hb1.trans (hb2.mono hb1.size)).trans (hb3.mono (by have := hb1.size; omega))
 have hst3 : MSt w3 X w1.heap.size r s (.slice b m cap2) es := ⟨hX3, w1.heap.size, w2.heap.size, by rw [hm.out] at hrow2 ⊢; exact hrow2.below hb3 (Nat.le_refl _), Nat.le_refl _, by omega, .inl (by omega)⟩
 have hrd3 : ReadE w3.heap.size w3 (.slice a m cap) es := ((hrd1.out.below (hb2.mono (by have := hb1.size; omega))).below (hb3.mono (by have := hb1.size; omega))).mono (by have := hb1.size; omega)
 have hrw3 : ReadI w.heap.size w3 (.slice aw n cw) wd := hw9.out.below hbw3
 have hgr := hgrx.out w3 hrd3
 have hbase : w1.heap.size = w.heap.size + 1 + 1 := hs1.out
 have hbX : w1.heap.size ≤ X := by omega
 have hX3s : X < w3.heap.size := by omega
 replace hX3 := hidI hX3
 replace hR2 := hidI hR2
 replace hR3 := hidI hR3
 replace hst3 := hidI hst3
 replace hrd3 := hidI hrd3
 replace hrw3 := hidI hrw3
 replace hrow2 := hidI hrow2
 replace hbw3 := hidI hbw3
 replace hs3 := hidI hs3
 replace hbase := hidI hbase
 go_upto_region 2 with fail
 rw [← hw3, ← hX]
 replace hw3 := hidI hw3
 replace hX := hidI hX
 clear hb2 hb3
 cases b1 with
 | false =>
  replace hparts : Hid (B = false) := hidI (by rw [hparts.out]; rfl)
  have hpz : B = false := by rw [hparts.out]
  obtain ⟨hPS9, hPE9⟩ := hfalse.out hpz
  replace hPS9 := hPS9.symm
  replace hPE9 := hPE9.symm
  subst hpz
  subst hPS9
  subst hPE9
  have hbz3 := Below.refl w3.heap.size w3
  go_wp2_with fail
  refine hgr.mono ?_
  rintro e w4 ⟨rfl, hbn⟩
  have hbz4 := hbz3.trans (hbn.mono hbz3.size)
  replace g0 := below_cell g0 hbn (by have := hbase.out; omega)
  replace g1 := below_cell g1 hbn (by have := hbase.out; omega)
  replace g2 := below_cell g2 hbn (by have := hbase.out; omega)
  have hsz4 := hbn.size
  clear hbn
  have hR9 : w4.heap[w.heap.size + 1]? = some (.cells #[.int .i64 0, .int .i64 0, .slice none 0 0] 26 (0, 0)) := by rw [hbz4.block _ (by have := hbase.out; omega)]; exact hR3.out
  have hst9 : MSt w4 X w1.heap.size r s (.slice b m cap2) es := by
   obtain ⟨q1, lo, hi, q2, q3, q4, q5⟩ := hst3.out
   exact ⟨by rw [hbz4.block _ hX3s]; exact q1, lo, hi, q2.below hbz4 q4, q3, Nat.le_trans q4 hbz4.size, q5⟩
  have hX9 := hst9.1
  have hfin := mst_fin (w := w) (w9 := w4) (X := X) (R := w.heap.size + 1) (base := w1.heap.size) (cap := cap2) (r := r) (s' := s) (E := es) (b := false) (a := b) (by omega) (by have := hbase.out; omega) (hbw3.out.trans (hbz4.mono hbw3.out.size)) (by rw [← hm.out]; exact hst9)
  rw [← hm.out] at hfin
  obtain ⟨x0, x1, x2⟩ := cell3 hX9
  obtain ⟨y0, y1, y2⟩ := cell3 hR9
  have f2 := fun j => frozen_of_row w4 (w.heap.size + 1) j _ _ hR9
  simp at x0 x1 x2 y0 y1 y2
  replace hfin := hidI hfin
  replace hR9 := hidI hR9
  replace hX9 := hidI hX9
  replace hst9 := hidI hst9
  go_wp2
  (try simp only [Exit.inBlock, Exit.then])
  refine ret_cell2 (x := .bool false) rfl rfl rfl (set3 hR9.out _ _ _) Tryz.underlying26 sizeGraph ?_
  exact hfin.out
 | true =>
  obtain ⟨hs1_, hs2_, hel, hr1, hr3⟩ := hlim.out rfl
  have hmb : m ≤ 120 := by have := hm.out; omega
  have hpar := hparts.out
  rw [Bool.true_and] at hpar
  replace hparts := hidI hpar
  clear hpar
  by_cases c1 : 0 ≤ u ∧ u < s
  case neg =>
   replace hparts : Hid (B = false) := hidI (by rw [hparts.out, decide_eq_false c1]; rfl)
   have hvu : ∀ W, Calls Tryz.prog 140 #[.int .i64 u, .int .i64 0, .int .i64 (s - 1)] W (fun e w' => e = .returned (.bool false) ∧ W = w') := fun W => by have := in_any W u 0 (s - 1); rwa [decide_eq_false (show ¬ (0 ≤ u ∧ u ≤ s - 1) by omega)] at this
   replace c1 := hidI c1
   have hpz : B = false := by rw [hparts.out]
   obtain ⟨hPS9, hPE9⟩ := hfalse.out hpz
   replace hPS9 := hPS9.symm
   replace hPE9 := hPE9.symm
   subst hpz
   subst hPS9
   subst hPE9
   have hbz3 := Below.refl w3.heap.size w3
   go_wp2_with fail
   refine hgr.mono ?_
   rintro e w4 ⟨rfl, hbn⟩
   have hbz4 := hbz3.trans (hbn.mono hbz3.size)
   replace g0 := below_cell g0 hbn (by have := hbase.out; omega)
   replace g1 := below_cell g1 hbn (by have := hbase.out; omega)
   replace g2 := below_cell g2 hbn (by have := hbase.out; omega)
   have hsz4 := hbn.size
   clear hbn
   go_wp2_with fail
   refine (hvu w4).mono ?_
   rintro e wz ⟨rfl, rfl⟩
   have hR9 : w4.heap[w.heap.size + 1]? = some (.cells #[.int .i64 0, .int .i64 0, .slice none 0 0] 26 (0, 0)) := by rw [hbz4.block _ (by have := hbase.out; omega)]; exact hR3.out
   have hst9 : MSt w4 X w1.heap.size r s (.slice b m cap2) es := by
    obtain ⟨q1, lo, hi, q2, q3, q4, q5⟩ := hst3.out
    exact ⟨by rw [hbz4.block _ hX3s]; exact q1, lo, hi, q2.below hbz4 q4, q3, Nat.le_trans q4 hbz4.size, q5⟩
   have hX9 := hst9.1
   have hfin := mst_fin (w := w) (w9 := w4) (X := X) (R := w.heap.size + 1) (base := w1.heap.size) (cap := cap2) (r := r) (s' := s) (E := es) (b := false) (a := b) (by omega) (by have := hbase.out; omega) (hbw3.out.trans (hbz4.mono hbw3.out.size)) (by rw [← hm.out]; exact hst9)
   rw [← hm.out] at hfin
   obtain ⟨x0, x1, x2⟩ := cell3 hX9
   obtain ⟨y0, y1, y2⟩ := cell3 hR9
   have f2 := fun j => frozen_of_row w4 (w.heap.size + 1) j _ _ hR9
   simp at x0 x1 x2 y0 y1 y2
   replace hfin := hidI hfin
   replace hR9 := hidI hR9
   replace hX9 := hidI hX9
   replace hst9 := hidI hst9
   go_wp2
   (try simp only [Exit.inBlock, Exit.then])
   refine ret_cell2 (x := .bool false) rfl rfl rfl (set3 hR9.out _ _ _) Tryz.underlying26 sizeGraph ?_
   exact hfin.out
  have hvu : ∀ W, Calls Tryz.prog 140 #[.int .i64 u, .int .i64 0, .int .i64 (s - 1)] W (fun e w' => e = .returned (.bool true) ∧ W = w') := fun W => by have := in_any W u 0 (s - 1); rwa [decide_eq_true (show 0 ≤ u ∧ u ≤ s - 1 by omega)] at this
  have hpar := hparts.out
  rw [decide_eq_true c1, Bool.true_and] at hpar
  replace hparts := hidI hpar
  clear hpar
  replace c1 := hidI c1
  by_cases c2 : 0 ≤ v ∧ v < s
  case neg =>
   replace hparts : Hid (B = false) := hidI (by rw [hparts.out, decide_eq_false c2]; rfl)
   have hvv : ∀ W, Calls Tryz.prog 140 #[.int .i64 v, .int .i64 0, .int .i64 (s - 1)] W (fun e w' => e = .returned (.bool false) ∧ W = w') := fun W => by have := in_any W v 0 (s - 1); rwa [decide_eq_false (show ¬ (0 ≤ v ∧ v ≤ s - 1) by omega)] at this
   replace c2 := hidI c2
   have hpz : B = false := by rw [hparts.out]
   obtain ⟨hPS9, hPE9⟩ := hfalse.out hpz
   replace hPS9 := hPS9.symm
   replace hPE9 := hPE9.symm
   subst hpz
   subst hPS9
   subst hPE9
   have hbz3 := Below.refl w3.heap.size w3
   go_wp2_with fail
   refine hgr.mono ?_
   rintro e w4 ⟨rfl, hbn⟩
   have hbz4 := hbz3.trans (hbn.mono hbz3.size)
   replace g0 := below_cell g0 hbn (by have := hbase.out; omega)
   replace g1 := below_cell g1 hbn (by have := hbase.out; omega)
   replace g2 := below_cell g2 hbn (by have := hbase.out; omega)
   have hsz4 := hbn.size
   clear hbn
   go_wp2_with fail
   refine (hvu w4).mono ?_
   rintro e wz ⟨rfl, rfl⟩
   go_wp2_with fail
   refine (hvv w4).mono ?_
   rintro e wz ⟨rfl, rfl⟩
   have hR9 : w4.heap[w.heap.size + 1]? = some (.cells #[.int .i64 0, .int .i64 0, .slice none 0 0] 26 (0, 0)) := by rw [hbz4.block _ (by have := hbase.out; omega)]; exact hR3.out
   have hst9 : MSt w4 X w1.heap.size r s (.slice b m cap2) es := by
    obtain ⟨q1, lo, hi, q2, q3, q4, q5⟩ := hst3.out
    exact ⟨by rw [hbz4.block _ hX3s]; exact q1, lo, hi, q2.below hbz4 q4, q3, Nat.le_trans q4 hbz4.size, q5⟩
   have hX9 := hst9.1
   have hfin := mst_fin (w := w) (w9 := w4) (X := X) (R := w.heap.size + 1) (base := w1.heap.size) (cap := cap2) (r := r) (s' := s) (E := es) (b := false) (a := b) (by omega) (by have := hbase.out; omega) (hbw3.out.trans (hbz4.mono hbw3.out.size)) (by rw [← hm.out]; exact hst9)
   rw [← hm.out] at hfin
   obtain ⟨x0, x1, x2⟩ := cell3 hX9
   obtain ⟨y0, y1, y2⟩ := cell3 hR9
   have f2 := fun j => frozen_of_row w4 (w.heap.size + 1) j _ _ hR9
   simp at x0 x1 x2 y0 y1 y2
   replace hfin := hidI hfin
   replace hR9 := hidI hR9
   replace hX9 := hidI hX9
   replace hst9 := hidI hst9
   go_wp2
   (try simp only [Exit.inBlock, Exit.then])
   refine ret_cell2 (x := .bool false) rfl rfl rfl (set3 hR9.out _ _ _) Tryz.underlying26 sizeGraph ?_
   exact hfin.out
  have hvv : ∀ W, Calls Tryz.prog 140 #[.int .i64 v, .int .i64 0, .int .i64 (s - 1)] W (fun e w' => e = .returned (.bool true) ∧ W = w') := fun W => by have := in_any W v 0 (s - 1); rwa [decide_eq_true (show 0 ≤ v ∧ v ≤ s - 1 by omega)] at this
  have hpar := hparts.out
  rw [decide_eq_true c2, Bool.true_and] at hpar
  replace hparts := hidI hpar
  clear hpar
  replace c2 := hidI c2
  cases b4 with
  | false =>
   replace hparts : Hid (B = false) := hidI (by rw [hparts.out]; rfl)
   have hpz : B = false := by rw [hparts.out]
   obtain ⟨hPS9, hPE9⟩ := hfalse.out hpz
   replace hPS9 := hPS9.symm
   replace hPE9 := hPE9.symm
   subst hpz
   subst hPS9
   subst hPE9
   have hbz3 := Below.refl w3.heap.size w3
   go_wp2_with fail
   refine hgr.mono ?_
   rintro e w4 ⟨rfl, hbn⟩
   have hbz4 := hbz3.trans (hbn.mono hbz3.size)
   replace g0 := below_cell g0 hbn (by have := hbase.out; omega)
   replace g1 := below_cell g1 hbn (by have := hbase.out; omega)
   replace g2 := below_cell g2 hbn (by have := hbase.out; omega)
   have hsz4 := hbn.size
   clear hbn
   go_wp2_with fail
   refine (hvu w4).mono ?_
   rintro e wz ⟨rfl, rfl⟩
   go_wp2_with fail
   refine (hvv w4).mono ?_
   rintro e wz ⟨rfl, rfl⟩
   have q5 := hrw3.out.below (hbz4.mono (by have := hbase.out; omega))
   go_wp2_with fail
   refine (hwx.out w4 _ q5).mono ?_
   rintro e w5 ⟨rfl, mm, rfl⟩
   replace hbz4 := below_dn hbz4 mm
   have hR9 : (w4.drewN mm).heap[w.heap.size + 1]? = some (.cells #[.int .i64 0, .int .i64 0, .slice none 0 0] 26 (0, 0)) := by rw [hbz4.block _ (by have := hbase.out; omega)]; exact hR3.out
   have hst9 : MSt (w4.drewN mm) X w1.heap.size r s (.slice b m cap2) es := by
    obtain ⟨q1, lo, hi, q2, q3, q4, q5⟩ := hst3.out
    exact ⟨by rw [hbz4.block _ hX3s]; exact q1, lo, hi, q2.below hbz4 q4, q3, Nat.le_trans q4 hbz4.size, q5⟩
   have hX9 := hst9.1
   have hfin := mst_fin (w := w) (w9 := (w4.drewN mm)) (X := X) (R := w.heap.size + 1) (base := w1.heap.size) (cap := cap2) (r := r) (s' := s) (E := es) (b := false) (a := b) (by omega) (by have := hbase.out; omega) (hbw3.out.trans (hbz4.mono hbw3.out.size)) (by rw [← hm.out]; exact hst9)
   rw [← hm.out] at hfin
   obtain ⟨x0, x1, x2⟩ := cell3 hX9
   obtain ⟨y0, y1, y2⟩ := cell3 hR9
   have f2 := fun j => frozen_of_row (w4.drewN mm) (w.heap.size + 1) j _ _ hR9
   simp at x0 x1 x2 y0 y1 y2
   replace hfin := hidI hfin
   replace hR9 := hidI hR9
   replace hX9 := hidI hX9
   replace hst9 := hidI hst9
   go_wp2
   (try simp only [Exit.inBlock, Exit.then])
   refine ret_cell2 (x := .bool false) rfl rfl rfl (set3 hR9.out _ _ _) Tryz.underlying26 sizeGraph ?_
   exact hfin.out
  | true =>
   have hpar := hparts.out
   rw [Bool.true_and] at hpar
   replace hparts := hidI hpar
   clear hpar
   have hn24 : n ≤ 24 := by
    have hiw := hb4_.out.symm
    unfold isW at hiw
    rw [decide_eq_true_eq] at hiw
    have := hn.out
    omega
   by_cases c3 : 0 < n
   case neg =>
    have hn0 : n = 0 := by omega
    replace hparts : Hid (B = false) := hidI (by rw [hparts.out, decide_eq_false (show ¬ n ≠ 0 by omega)]; rfl)
    have t3d : ((n : Int) == 0) = true := by rw [beq_iff_eq]; omega
    replace hn0 := hidI hn0
    replace c3 := hidI c3
    have hpz : B = false := by rw [hparts.out]
    obtain ⟨hPS9, hPE9⟩ := hfalse.out hpz
    replace hPS9 := hPS9.symm
    replace hPE9 := hPE9.symm
    subst hpz
    subst hPS9
    subst hPE9
    have hbz3 := Below.refl w3.heap.size w3
    go_wp2_with fail
    refine hgr.mono ?_
    rintro e w4 ⟨rfl, hbn⟩
    have hbz4 := hbz3.trans (hbn.mono hbz3.size)
    replace g0 := below_cell g0 hbn (by have := hbase.out; omega)
    replace g1 := below_cell g1 hbn (by have := hbase.out; omega)
    replace g2 := below_cell g2 hbn (by have := hbase.out; omega)
    have hsz4 := hbn.size
    clear hbn
    go_wp2_with fail
    refine (hvu w4).mono ?_
    rintro e wz ⟨rfl, rfl⟩
    go_wp2_with fail
    refine (hvv w4).mono ?_
    rintro e wz ⟨rfl, rfl⟩
    have q5 := hrw3.out.below (hbz4.mono (by have := hbase.out; omega))
    go_wp2_with fail
    refine (hwx.out w4 _ q5).mono ?_
    rintro e w5 ⟨rfl, mm, rfl⟩
    replace hbz4 := below_dn hbz4 mm
    have hR9 : (w4.drewN mm).heap[w.heap.size + 1]? = some (.cells #[.int .i64 0, .int .i64 0, .slice none 0 0] 26 (0, 0)) := by rw [hbz4.block _ (by have := hbase.out; omega)]; exact hR3.out
    have hst9 : MSt (w4.drewN mm) X w1.heap.size r s (.slice b m cap2) es := by
     obtain ⟨q1, lo, hi, q2, q3, q4, q5⟩ := hst3.out
     exact ⟨by rw [hbz4.block _ hX3s]; exact q1, lo, hi, q2.below hbz4 q4, q3, Nat.le_trans q4 hbz4.size, q5⟩
    have hX9 := hst9.1
    have hfin := mst_fin (w := w) (w9 := (w4.drewN mm)) (X := X) (R := w.heap.size + 1) (base := w1.heap.size) (cap := cap2) (r := r) (s' := s) (E := es) (b := false) (a := b) (by omega) (by have := hbase.out; omega) (hbw3.out.trans (hbz4.mono hbw3.out.size)) (by rw [← hm.out]; exact hst9)
    rw [← hm.out] at hfin
    obtain ⟨x0, x1, x2⟩ := cell3 hX9
    obtain ⟨y0, y1, y2⟩ := cell3 hR9
    have f2 := fun j => frozen_of_row (w4.drewN mm) (w.heap.size + 1) j _ _ hR9
    simp at x0 x1 x2 y0 y1 y2
    replace hfin := hidI hfin
    replace hR9 := hidI hR9
    replace hX9 := hidI hX9
    replace hst9 := hidI hst9
    go_wp2
    (try simp only [Exit.inBlock, Exit.then])
    refine ret_cell2 (x := .bool false) rfl rfl rfl (set3 hR9.out _ _ _) Tryz.underlying26 sizeGraph ?_
    exact hfin.out
   have hpar := hparts.out
   rw [decide_eq_true (show n ≠ 0 by omega), Bool.true_and] at hpar
   replace hparts := hidI hpar
   clear hpar
   have t3d : ((n : Int) == 0) = false := by rw [beq_eq_false_iff_ne]; omega
   by_cases c5 : s + n - 1 ≤ 40
   case neg =>
    replace hparts : Hid (B = false) := hidI (by rw [hparts.out, decide_eq_false c5]; rfl)
    have hpz : B = false := by rw [hparts.out]
    obtain ⟨hPS9, hPE9⟩ := hfalse.out hpz
    replace hPS9 := hPS9.symm
    replace hPE9 := hPE9.symm
    subst hpz
    subst hPS9
    subst hPE9
    have hbz3 := Below.refl w3.heap.size w3
    go_wp2_with fail
    refine hgr.mono ?_
    rintro e w4 ⟨rfl, hbn⟩
    have hbz4 := hbz3.trans (hbn.mono hbz3.size)
    replace g0 := below_cell g0 hbn (by have := hbase.out; omega)
    replace g1 := below_cell g1 hbn (by have := hbase.out; omega)
    replace g2 := below_cell g2 hbn (by have := hbase.out; omega)
    have hsz4 := hbn.size
    clear hbn
    go_wp2_with fail
    refine (hvu w4).mono ?_
    rintro e wz ⟨rfl, rfl⟩
    go_wp2_with fail
    refine (hvv w4).mono ?_
    rintro e wz ⟨rfl, rfl⟩
    have q5 := hrw3.out.below (hbz4.mono (by have := hbase.out; omega))
    go_wp2_with fail
    refine (hwx.out w4 _ q5).mono ?_
    rintro e w5 ⟨rfl, mm, rfl⟩
    replace hbz4 := below_dn hbz4 mm
    have hR9 : (w4.drewN mm).heap[w.heap.size + 1]? = some (.cells #[.int .i64 0, .int .i64 0, .slice none 0 0] 26 (0, 0)) := by rw [hbz4.block _ (by have := hbase.out; omega)]; exact hR3.out
    have hst9 : MSt (w4.drewN mm) X w1.heap.size r s (.slice b m cap2) es := by
     obtain ⟨q1, lo, hi, q2, q3, q4, q5⟩ := hst3.out
     exact ⟨by rw [hbz4.block _ hX3s]; exact q1, lo, hi, q2.below hbz4 q4, q3, Nat.le_trans q4 hbz4.size, q5⟩
    have hX9 := hst9.1
    have hfin := mst_fin (w := w) (w9 := (w4.drewN mm)) (X := X) (R := w.heap.size + 1) (base := w1.heap.size) (cap := cap2) (r := r) (s' := s) (E := es) (b := false) (a := b) (by omega) (by have := hbase.out; omega) (hbw3.out.trans (hbz4.mono hbw3.out.size)) (by rw [← hm.out]; exact hst9)
    rw [← hm.out] at hfin
    obtain ⟨x0, x1, x2⟩ := cell3 hX9
    obtain ⟨y0, y1, y2⟩ := cell3 hR9
    have f2 := fun j => frozen_of_row (w4.drewN mm) (w.heap.size + 1) j _ _ hR9
    simp at x0 x1 x2 y0 y1 y2
    replace hfin := hidI hfin
    replace hR9 := hidI hR9
    replace hX9 := hidI hX9
    replace hst9 := hidI hst9
    go_wp2
    all_goals first | (exfalso; omega) | skip
    (try simp only [Exit.inBlock, Exit.then])
    refine ret_cell2 (x := .bool false) rfl rfl rfl (set3 hR9.out _ _ _) Tryz.underlying26 sizeGraph ?_
    exact hfin.out
   have hpar := hparts.out
   rw [decide_eq_true c5, Bool.true_and] at hpar
   replace hparts := hidI hpar
   clear hpar
   by_cases c6 : (m : Int) + n ≤ 120
   case neg =>
    replace hparts : Hid (B = false) := hidI (by rw [hparts.out, decide_eq_false_iff_not]; have := hm.out; omega)
    have hpz : B = false := by rw [hparts.out]
    obtain ⟨hPS9, hPE9⟩ := hfalse.out hpz
    replace hPS9 := hPS9.symm
    replace hPE9 := hPE9.symm
    subst hpz
    subst hPS9
    subst hPE9
    have hbz3 := Below.refl w3.heap.size w3
    go_wp2_with fail
    refine hgr.mono ?_
    rintro e w4 ⟨rfl, hbn⟩
    have hbz4 := hbz3.trans (hbn.mono hbz3.size)
    replace g0 := below_cell g0 hbn (by have := hbase.out; omega)
    replace g1 := below_cell g1 hbn (by have := hbase.out; omega)
    replace g2 := below_cell g2 hbn (by have := hbase.out; omega)
    have hsz4 := hbn.size
    clear hbn
    go_wp2_with fail
    refine (hvu w4).mono ?_
    rintro e wz ⟨rfl, rfl⟩
    go_wp2_with fail
    refine (hvv w4).mono ?_
    rintro e wz ⟨rfl, rfl⟩
    have q5 := hrw3.out.below (hbz4.mono (by have := hbase.out; omega))
    go_wp2_with fail
    refine (hwx.out w4 _ q5).mono ?_
    rintro e w5 ⟨rfl, mm, rfl⟩
    replace hbz4 := below_dn hbz4 mm
    have hR9 : (w4.drewN mm).heap[w.heap.size + 1]? = some (.cells #[.int .i64 0, .int .i64 0, .slice none 0 0] 26 (0, 0)) := by rw [hbz4.block _ (by have := hbase.out; omega)]; exact hR3.out
    have hst9 : MSt (w4.drewN mm) X w1.heap.size r s (.slice b m cap2) es := by
     obtain ⟨q1, lo, hi, q2, q3, q4, q5⟩ := hst3.out
     exact ⟨by rw [hbz4.block _ hX3s]; exact q1, lo, hi, q2.below hbz4 q4, q3, Nat.le_trans q4 hbz4.size, q5⟩
    have hX9 := hst9.1
    have hfin := mst_fin (w := w) (w9 := (w4.drewN mm)) (X := X) (R := w.heap.size + 1) (base := w1.heap.size) (cap := cap2) (r := r) (s' := s) (E := es) (b := false) (a := b) (by omega) (by have := hbase.out; omega) (hbw3.out.trans (hbz4.mono hbw3.out.size)) (by rw [← hm.out]; exact hst9)
    rw [← hm.out] at hfin
    obtain ⟨x0, x1, x2⟩ := cell3 hX9
    obtain ⟨y0, y1, y2⟩ := cell3 hR9
    have f2 := fun j => frozen_of_row (w4.drewN mm) (w.heap.size + 1) j _ _ hR9
    simp at x0 x1 x2 y0 y1 y2
    replace hfin := hidI hfin
    replace hR9 := hidI hR9
    replace hX9 := hidI hX9
    replace hst9 := hidI hst9
    go_wp2
    all_goals first | (exfalso; omega) | skip
    (try simp only [Exit.inBlock, Exit.then])
    refine ret_cell2 (x := .bool false) rfl rfl rfl (set3 hR9.out _ _ _) Tryz.underlying26 sizeGraph ?_
    exact hfin.out
   have hpz : B = true := by rw [hparts.out, decide_eq_true_eq]; have := hm.out; omega
   have hbz3 := Below.refl w3.heap.size w3
   go_wp2_with fail
   refine hgr.mono ?_
   rintro e w4 ⟨rfl, hbn⟩
   have hbz4 := hbz3.trans (hbn.mono hbz3.size)
   replace g0 := below_cell g0 hbn (by have := hbase.out; omega)
   replace g1 := below_cell g1 hbn (by have := hbase.out; omega)
   replace g2 := below_cell g2 hbn (by have := hbase.out; omega)
   have hsz4 := hbn.size
   clear hbn
   go_wp2_with fail
   refine (hvu w4).mono ?_
   rintro e wz ⟨rfl, rfl⟩
   go_wp2_with fail
   refine (hvv w4).mono ?_
   rintro e wz ⟨rfl, rfl⟩
   have q5 := hrw3.out.below (hbz4.mono (by have := hbase.out; omega))
   go_wp2_with fail
   refine (hwx.out w4 _ q5).mono ?_
   rintro e w5 ⟨rfl, mm, rfl⟩
   replace hbz4 := below_dn hbz4 mm
   have hR9 : (w4.drewN mm).heap[w.heap.size + 1]? = some (.cells #[.int .i64 0, .int .i64 0, .slice none 0 0] 26 (0, 0)) := by rw [hbz4.block _ (by have := hbase.out; omega)]; exact hR3.out
   have hst9 : MSt (w4.drewN mm) X w1.heap.size r s (.slice b m cap2) es := by
    obtain ⟨q1, lo, hi, q2, q3, q4, q5⟩ := hst3.out
    exact ⟨by rw [hbz4.block _ hX3s]; exact q1, lo, hi, q2.below hbz4 q4, q3, Nat.le_trans q4 hbz4.size, q5⟩
   obtain ⟨hPS9, hPE9⟩ := htrue.out hpz
   obtain ⟨w5, hw5⟩ := exq (w4.drewN mm)
   rw [← hw5] at hR9 hst9 hbz4 ⊢
   have hbw5 : Below w.heap.size w w5 := hbw3.out.trans (hbz4.mono hbw3.out.size)
   have hX5s : X < w5.heap.size := by have := hbz4.size; omega
   replace g0 : w5.cell? ⟨w.heap.size, 0, none⟩ = some (.int .i64 r) := by rw [hw5]; exact g0
   replace g1 : w5.cell? ⟨w.heap.size, 1, none⟩ = some (.int .i64 s) := by rw [hw5]; exact g1
   replace g2 : w5.cell? ⟨w.heap.size, 2, none⟩ = some (.slice a m cap) := by rw [hw5]; exact g2
   have hiw := hb4_.out.symm
   obtain ⟨bw, ow, rfl, hbwl, _⟩ := hw9.out.at2 0 (by have := hn.out; omega)
   have hwc : ∀ j, j < n → ∀ W, Below w.heap.size w W → W.cell? ⟨bw, ow + j, none⟩ = some (.int .i64 (wd.getD j 0)) := fun j hj W hW => by
    obtain ⟨b', o', e, _, hc⟩ := hw9.out.at2 j (by have := hn.out; omega)
    cases e
    exact below_cell hc hW hbwl
   have hlet : ∀ j, j < n → wd.getD j 0 ≠ 0 ∧ -3 ≤ wd.getD j 0 ∧ wd.getD j 0 ≤ 3 := fun j hj => isW_let hiw ⟨hr1, hr3⟩ (by have := hn.out; omega)
   have hst0 : Hid (∃ v', MSt w5 X w1.heap.size r (s + (0 : Nat)) v' (putAll es (pathK s u v wd 0))) := hidI ⟨_, by
    have e1 : s + ((0 : Nat) : Int) = s := by simp
    have e3 : putAll es (pathK s u v wd 0) = es := by simp [pathK, putAll]
    rw [e1, e3]
    exact hst9⟩
   have hk0 : Hid (Below X w5 w5) := hidI (Below.refl _ _)
   replace hw5 := hidI hw5
   replace hR9 := hidI hR9
   replace hst9 := hidI hst9
   replace hbz4 := hidI hbz4
   replace hbw5 := hidI hbw5
   replace hwc := hidI hwc
   replace hlet := hidI hlet
   replace hiw := hidI hiw
   replace hpz := hidI hpz
   replace hPS9 := hidI hPS9
   replace hPE9 := hidI hPE9
   clear hwx hgrx hvu hvv
   go_wp2
   all_goals first | (exfalso; omega) | skip
   clear g0 g1 g2
   go_loopg [11, 12, 13] n (fun gg x i nx wr => ∃ (k : Nat) (y : Int), k + gg = n ∧ i = .int .i64 k ∧ x = .int .i64 y ∧ Hid (k < n → y = atP s u k) ∧ Hid (∃ v', MSt wr X w1.heap.size r (if k < n then s + (k : Nat) else s + n - 1) v' (putAll es (pathK s u v wd k))) ∧ Hid (Below X w5 wr))
   case atStart => exact ⟨0, u, by omega, rfl, rfl, hidI (fun _ => rfl), by rw [if_pos c3]; exact hst0, hk0⟩
   case round =>
    clear hst0 hk0
    obtain ⟨k, y, hk9, rfl, rfl, hat, hst, hkb⟩ := hrel
    obtain ⟨v6, hP⟩ := hst.out
    obtain ⟨E, hE⟩ := exq (putAll es (pathK s u v wd k))
    rw [← hE] at hP
    have hEl : E.length ≤ 1000 := by
     rw [hE]
     have := putAll_length (pathK s u v wd k) es
     rw [pathK_length] at this
     omega
    obtain ⟨av, cv, rfl⟩ := hP.form
    have hbr : Below w.heap.size w wr := hbw5.out.trans (hkb.out.mono (by have := hbase.out; omega))
    have hXr : X < wr.heap.size := by have := hkb.out.size; omega
    by_cases hlt : k < n
    · have hki : (k : Int) < (n : Int) := by omega
      rw [if_pos hlt] at hP
      have hy := hat.out hlt
      obtain ⟨z, hz⟩ := exq (wd.getD k 0)
      have hzb := hlet.out k hlt
      rw [← hz] at hzb
      have czr := hwc.out k hlt wr hbr
      rw [← hz] at czr
      obtain ⟨sk, hsk⟩ : ∃ x : Int, x = s + (k : Nat) := ⟨_, rfl⟩
      rw [← hsk] at hP
      have hskb : 1 ≤ sk ∧ sk ≤ 100 := by omega
      by_cases hmid : k + 1 < n
      · have hmi : (k : Int) + 1 < (n : Int) := by omega
        by_cases hpos : 0 < z
        ·
         obtain ⟨wa, hwa⟩ := exq (wr.setCell ⟨X, 1, none⟩ (.int .i64 (sk + 1)))
         have hSa : MSt wa X w1.heap.size r (sk + 1) (.slice av E.length cv) E := by rw [hwa]; exact hP.sized (sk + 1)
         have hba : Below X w5 wa := by rw [hwa]; exact hkb.out.setCell (p := ⟨X, 1, none⟩) (Nat.le_refl _) _
         have hsa : wa.heap.size = wr.heap.size := by rw [hwa]; simp [World.setCell]
         have hbx := hP.1
         have c1 := cell_of_heap hbx 1
         simp at c1
         have ff := fun j => frozen_of_row wr X j _ _ hbx
         have hbwa : Below w.heap.size w wa := hbw5.out.trans (hba.mono (by have := hbase.out; omega))
         have cza := hwc.out k hlt wa hbwa
         rw [← hz] at cza
         obtain ⟨wd_, hwd⟩ := exq wa.drew
         have hSd : MSt wd_ X w1.heap.size r (sk + 1) (.slice av E.length cv) E := by rw [hwd]; exact hSa.drew
         have hsd : wd_.heap.size = wa.heap.size := by rw [hwd]; rfl
         have hbd : Below X w5 wd_ := by rw [hwd]; exact below_dn hba 1
         have cz : wd_.cell? ⟨bw, ow + k, none⟩ = some (.int .i64 z) := by rw [hwd]; exact cza
         have cX := cell_of_heap hSd.1 2
         simp at cX
         have hcall := specPut wd_ (.slice av E.length cv) E y z sk hSd.read (by omega)
         obtain ⟨E2, hE2⟩ := exq (putE (y, z, sk) E)
         rw [← hE2] at hcall
         have hnext : E2 = putAll es (pathK s u v wd (k + 1)) := by
          rw [pathK_succ, putAll_snoc, ← hE, hE2]
          congr 1
          unfold edP eB
          rw [← hy, ← hz, ← hn.out, nxP_mid hmid, ← hsk]
          rw [if_neg (by omega)]
         have hzpos : (0 : Int) < z := by omega
         replace hE2 := hidI hE2
         replace hnext := hidI hnext
         replace hSa := hidI hSa
         replace hSd := hidI hSd
         replace hba := hidI hba
         replace hbd := hidI hbd
         replace hbwa := hidI hbwa
         replace hbx := hidI hbx
         replace hP := hidI hP
         replace hwd := hidI hwd
         replace hz := hidI hz
         replace hy := hidI hy
         replace hE := hidI hE
         replace hsk := hidI hsk
         replace hk9 := hidI hk9
         clear hst
         go_upto_region 12 with fail
         rw [← hwa]
         replace hwa := hidI hwa
         clear c1 ff
         go_wp2
         refine hideQ (fun _ _ d _ _ h => by cases d <;> exact h) (fun Q' hnorm hpan => ?_)
         refine wp_region_held_drew (S := fun x => x.cell? ⟨bw, ow + k, none⟩ = some (.int .i64 z)) (by kernel_rfl) ?_ (fun hHeld => ?_)
         · try dsimp only
           rw [← hwd.out]
           exact cz
         rw [← hwd.out] at hHeld ⊢
         refine tk 0 90 ?_
         refine tk 2 92 ?_
         refine tk 3 93 ?_
         refine tk 4 94 ?_
         refine tk 5 95 ?_
         refine tk 6 96 ?_
         refine tk 7 97 ?_
         refine tk 8 98 ?_
         refine rd 1 (fun K hK => ?_)
         rw [if_pos (by rfl)]
         go_simp
         refine hK.out _ _ ?_ (fun hHeld => ?_)
         · try dsimp only
           first | assumption | exact cz
         clear hK
         try simp only [Act.put, lyA, lyB, lyC]
         refine rd 9 (fun K hK => ?_)
         rw [if_pos (by rfl)]
         go_simp
         go_at_call 120
         (with_reducible refine hcall.mono ?_)
         rintro e w6 ⟨a2, c2, rfl, hrow, hb6⟩
         have hs6 := hb6.size
         replace cz := below_cell cz hb6 (by have := hbase.out; omega)
         have hX6 : w6.heap[X]? = _ := (hb6.block X (by omega)).trans hSd.out.1
         have c6 := cell_of_heap hX6 2
         have f6 := fun j => frozen_of_row w6 X j _ _ hX6
         simp at c6
         have hS7 := hSd.out.put (by omega) hb6 (by have := hbase.out; omega) hrow
         have hb7 : Below X w5 (w6.setCell ⟨X, 2, none⟩ (.slice a2 E2.length c2)) := (hbd.out.trans (hb6.mono (by omega))).setCell (p := ⟨X, 2, none⟩) (Nat.le_refl _) _
         have k9 : (w6.setCell ⟨X, 2, none⟩ (.slice a2 E2.length c2)).cell? ⟨bw, ow + k, none⟩ = some (.int .i64 z) := by
          rw [World.cell?_of_block (w := w6) (a := ⟨bw, ow + k, none⟩) (Below.heap_setCell _ _ _ _ (show bw ≠ X by have := hbase.out; omega))]; exact cz
         replace hX6 := hidI hX6
         replace hS7 := hidI hS7
         replace hb7 := hidI hb7
         replace hrow := hidI hrow
         replace hb6 := hidI hb6
         refine hK.out _ _ ?_ (fun hHeld => ?_)
         · try dsimp only
           first | assumption | exact cz
         clear hK
         try simp only [Act.put, lyA, lyB, lyC]
         refine tk 10 100 ?_
         refine rd 11 (fun K hK => ?_)
         rw [if_pos (by rfl)]
         go_simp
         replace cz := k9
         refine hK.out _ _ ?_ (fun hHeld => ?_)
         · try dsimp only
           first | assumption | exact cz
         clear hK
         try simp only [Act.put, lyA, lyB, lyC]
         refine wpAnyH_done (by kernel_rfl) ?_ _
         refine hnorm _ _ ?_
         clear hnorm hpan
         repeat clear hHeld
         try simp only [Exit.then]
         have hst7 : Hid (∃ v', MSt (w6.setCell ⟨X, 2, none⟩ (.slice a2 E2.length c2)) X w1.heap.size r (if k + 1 < n then s + ((k + 1 : Nat) : Int) else s + n - 1) v' (putAll es (pathK s u v wd (k + 1)))) := hidI ⟨_, by
          have hsz : (if k + 1 < n then s + ((k + 1 : Nat) : Int) else s + n - 1) = sk + 1 := by
           rw [if_pos hmid]; have := hsk.out; push_cast; omega
          rw [hsz, ← hnext.out]; exact hS7.out⟩
         have hat7 : Hid (k + 1 < n → sk = atP s u (k + 1)) := hidI (fun h => by rw [atP_succ]; exact hsk.out)
         clear hcall cX
         go_wp2
         go_roundg (n - (k + 1))
         case rel => exact ⟨k + 1, sk, by have := hk9.out; omega, by go_num, rfl, hat7, hst7, hb7⟩
         case measure => have := hk9.out; omega
        ·
         obtain ⟨wa, hwa⟩ := exq (wr.setCell ⟨X, 1, none⟩ (.int .i64 (sk + 1)))
         have hSa : MSt wa X w1.heap.size r (sk + 1) (.slice av E.length cv) E := by rw [hwa]; exact hP.sized (sk + 1)
         have hba : Below X w5 wa := by rw [hwa]; exact hkb.out.setCell (p := ⟨X, 1, none⟩) (Nat.le_refl _) _
         have hsa : wa.heap.size = wr.heap.size := by rw [hwa]; simp [World.setCell]
         have hbx := hP.1
         have c1 := cell_of_heap hbx 1
         simp at c1
         have ff := fun j => frozen_of_row wr X j _ _ hbx
         have hbwa : Below w.heap.size w wa := hbw5.out.trans (hba.mono (by have := hbase.out; omega))
         have cza := hwc.out k hlt wa hbwa
         rw [← hz] at cza
         obtain ⟨wd_, hwd⟩ := exq wa.drew
         have hSd : MSt wd_ X w1.heap.size r (sk + 1) (.slice av E.length cv) E := by rw [hwd]; exact hSa.drew
         have hsd : wd_.heap.size = wa.heap.size := by rw [hwd]; rfl
         have hbd : Below X w5 wd_ := by rw [hwd]; exact below_dn hba 1
         have cz : wd_.cell? ⟨bw, ow + k, none⟩ = some (.int .i64 z) := by rw [hwd]; exact cza
         have cX := cell_of_heap hSd.1 2
         simp at cX
         have hcall := specPut wd_ (.slice av E.length cv) E sk (-z) y hSd.read (by omega)
         obtain ⟨E2, hE2⟩ := exq (putE (sk, -z, y) E)
         rw [← hE2] at hcall
         have hnext : E2 = putAll es (pathK s u v wd (k + 1)) := by
          rw [pathK_succ, putAll_snoc, ← hE, hE2]
          congr 1
          unfold edP eB
          rw [← hy, ← hz, ← hn.out, nxP_mid hmid, ← hsk]
          rw [if_pos (by omega)]
         have hq1 : wrap64 (-z) = -z := by unfold wrap64; omega
         have hq2 : IntKind.i64.wrap (-z) = -z := IntWalk.i64_in _ (by omega)
         have hzpos : ¬ (0 : Int) < z := by omega
         replace hE2 := hidI hE2
         replace hnext := hidI hnext
         replace hSa := hidI hSa
         replace hSd := hidI hSd
         replace hba := hidI hba
         replace hbd := hidI hbd
         replace hbwa := hidI hbwa
         replace hbx := hidI hbx
         replace hP := hidI hP
         replace hwd := hidI hwd
         replace hz := hidI hz
         replace hy := hidI hy
         replace hE := hidI hE
         replace hsk := hidI hsk
         replace hk9 := hidI hk9
         clear hst
         go_upto_region 12 with fail
         rw [← hwa]
         replace hwa := hidI hwa
         clear c1 ff
         go_wp2
         refine hideQ (fun _ _ d _ _ h => by cases d <;> exact h) (fun Q' hnorm hpan => ?_)
         refine wp_region_held_drew (S := fun x => x.cell? ⟨bw, ow + k, none⟩ = some (.int .i64 z)) (by kernel_rfl) ?_ (fun hHeld => ?_)
         · try dsimp only
           rw [← hwd.out]
           exact cz
         rw [← hwd.out] at hHeld ⊢
         refine tk 0 101 ?_
         refine tk 2 103 ?_
         refine tk 3 104 ?_
         refine tk 4 105 ?_
         refine tk 5 106 ?_
         refine tk 6 107 ?_
         refine tk 7 108 ?_
         refine tk 8 109 ?_
         refine tk 9 110 ?_
         refine rd 1 (fun K hK => ?_)
         rw [if_pos (by rfl)]
         go_simp
         refine hK.out _ _ ?_ (fun hHeld => ?_)
         · try dsimp only
           first | assumption | exact cz
         clear hK
         try simp only [Act.put, lyA, lyB, lyC]
         refine rd 10 (fun K hK => ?_)
         rw [if_pos (by rfl)]
         go_simp
         go_at_call 120
         (with_reducible refine hcall.mono ?_)
         rintro e w6 ⟨a2, c2, rfl, hrow, hb6⟩
         have hs6 := hb6.size
         replace cz := below_cell cz hb6 (by have := hbase.out; omega)
         have hX6 : w6.heap[X]? = _ := (hb6.block X (by omega)).trans hSd.out.1
         have c6 := cell_of_heap hX6 2
         have f6 := fun j => frozen_of_row w6 X j _ _ hX6
         simp at c6
         have hS7 := hSd.out.put (by omega) hb6 (by have := hbase.out; omega) hrow
         have hb7 : Below X w5 (w6.setCell ⟨X, 2, none⟩ (.slice a2 E2.length c2)) := (hbd.out.trans (hb6.mono (by omega))).setCell (p := ⟨X, 2, none⟩) (Nat.le_refl _) _
         have k9 : (w6.setCell ⟨X, 2, none⟩ (.slice a2 E2.length c2)).cell? ⟨bw, ow + k, none⟩ = some (.int .i64 z) := by
          rw [World.cell?_of_block (w := w6) (a := ⟨bw, ow + k, none⟩) (Below.heap_setCell _ _ _ _ (show bw ≠ X by have := hbase.out; omega))]; exact cz
         replace hX6 := hidI hX6
         replace hS7 := hidI hS7
         replace hb7 := hidI hb7
         replace hrow := hidI hrow
         replace hb6 := hidI hb6
         refine hK.out _ _ ?_ (fun hHeld => ?_)
         · try dsimp only
           first | assumption | exact cz
         clear hK
         try simp only [Act.put, lyA, lyB, lyC]
         refine tk 11 112 ?_
         refine rd 12 (fun K hK => ?_)
         rw [if_pos (by rfl)]
         go_simp
         replace cz := k9
         refine hK.out _ _ ?_ (fun hHeld => ?_)
         · try dsimp only
           first | assumption | exact cz
         clear hK
         try simp only [Act.put, lyA, lyB, lyC]
         refine wpAnyH_done (by kernel_rfl) ?_ _
         refine hnorm _ _ ?_
         clear hnorm hpan
         repeat clear hHeld
         try simp only [Exit.then]
         have hst7 : Hid (∃ v', MSt (w6.setCell ⟨X, 2, none⟩ (.slice a2 E2.length c2)) X w1.heap.size r (if k + 1 < n then s + ((k + 1 : Nat) : Int) else s + n - 1) v' (putAll es (pathK s u v wd (k + 1)))) := hidI ⟨_, by
          have hsz : (if k + 1 < n then s + ((k + 1 : Nat) : Int) else s + n - 1) = sk + 1 := by
           rw [if_pos hmid]; have := hsk.out; push_cast; omega
          rw [hsz, ← hnext.out]; exact hS7.out⟩
         have hat7 : Hid (k + 1 < n → sk = atP s u (k + 1)) := hidI (fun h => by rw [atP_succ]; exact hsk.out)
         clear hcall cX
         go_wp2
         go_roundg (n - (k + 1))
         case rel => exact ⟨k + 1, sk, by have := hk9.out; omega, by go_num, rfl, hat7, hst7, hb7⟩
         case measure => have := hk9.out; omega
      · have hmi : ¬ (k : Int) + 1 < (n : Int) := by omega
        by_cases hpos : 0 < z
        ·
         obtain ⟨wa, hwa⟩ := exq wr
         have hSa : MSt wa X w1.heap.size r sk (.slice av E.length cv) E := by rw [hwa]; exact hP
         have hba : Below X w5 wa := by rw [hwa]; exact hkb.out
         have hsa : wa.heap.size = wr.heap.size := by rw [hwa]
         have hbx := hP.1
         have hbwa : Below w.heap.size w wa := hbw5.out.trans (hba.mono (by have := hbase.out; omega))
         have cza := hwc.out k hlt wa hbwa
         rw [← hz] at cza
         obtain ⟨wd_, hwd⟩ := exq wa.drew
         have hSd : MSt wd_ X w1.heap.size r sk (.slice av E.length cv) E := by rw [hwd]; exact hSa.drew
         have hsd : wd_.heap.size = wa.heap.size := by rw [hwd]; rfl
         have hbd : Below X w5 wd_ := by rw [hwd]; exact below_dn hba 1
         have cz : wd_.cell? ⟨bw, ow + k, none⟩ = some (.int .i64 z) := by rw [hwd]; exact cza
         have cX := cell_of_heap hSd.1 2
         simp at cX
         have hcall := specPut wd_ (.slice av E.length cv) E y z v hSd.read (by omega)
         obtain ⟨E2, hE2⟩ := exq (putE (y, z, v) E)
         rw [← hE2] at hcall
         have hnext : E2 = putAll es (pathK s u v wd (k + 1)) := by
          rw [pathK_succ, putAll_snoc, ← hE, hE2]
          congr 1
          unfold edP eB
          rw [← hy, ← hz, ← hn.out, nxP_last hmid]
          rw [if_neg (by omega)]
         have hzpos : (0 : Int) < z := by omega
         replace hE2 := hidI hE2
         replace hnext := hidI hnext
         replace hSa := hidI hSa
         replace hSd := hidI hSd
         replace hba := hidI hba
         replace hbd := hidI hbd
         replace hbwa := hidI hbwa
         replace hbx := hidI hbx
         replace hP := hidI hP
         replace hwd := hidI hwd
         replace hz := hidI hz
         replace hy := hidI hy
         replace hE := hidI hE
         replace hsk := hidI hsk
         replace hk9 := hidI hk9
         clear hst
         rw [← hwa]
         replace hwa := hidI hwa
         go_wp2
         refine hideQ (fun _ _ d _ _ h => by cases d <;> exact h) (fun Q' hnorm hpan => ?_)
         refine wp_region_held_drew (S := fun x => x.cell? ⟨bw, ow + k, none⟩ = some (.int .i64 z)) (by kernel_rfl) ?_ (fun hHeld => ?_)
         · try dsimp only
           rw [← hwd.out]
           exact cz
         rw [← hwd.out] at hHeld ⊢
         refine tk 0 90 ?_
         refine tk 2 92 ?_
         refine tk 3 93 ?_
         refine tk 4 94 ?_
         refine tk 5 95 ?_
         refine tk 6 96 ?_
         refine tk 7 97 ?_
         refine tk 8 98 ?_
         refine rd 1 (fun K hK => ?_)
         rw [if_pos (by rfl)]
         go_simp
         refine hK.out _ _ ?_ (fun hHeld => ?_)
         · try dsimp only
           first | assumption | exact cz
         clear hK
         try simp only [Act.put, lyA, lyB, lyC]
         refine rd 9 (fun K hK => ?_)
         rw [if_pos (by rfl)]
         go_simp
         go_at_call 120
         (with_reducible refine hcall.mono ?_)
         rintro e w6 ⟨a2, c2, rfl, hrow, hb6⟩
         have hs6 := hb6.size
         replace cz := below_cell cz hb6 (by have := hbase.out; omega)
         have hX6 : w6.heap[X]? = _ := (hb6.block X (by omega)).trans hSd.out.1
         have c6 := cell_of_heap hX6 2
         have f6 := fun j => frozen_of_row w6 X j _ _ hX6
         simp at c6
         have hS7 := hSd.out.put (by omega) hb6 (by have := hbase.out; omega) hrow
         have hb7 : Below X w5 (w6.setCell ⟨X, 2, none⟩ (.slice a2 E2.length c2)) := (hbd.out.trans (hb6.mono (by omega))).setCell (p := ⟨X, 2, none⟩) (Nat.le_refl _) _
         have k9 : (w6.setCell ⟨X, 2, none⟩ (.slice a2 E2.length c2)).cell? ⟨bw, ow + k, none⟩ = some (.int .i64 z) := by
          rw [World.cell?_of_block (w := w6) (a := ⟨bw, ow + k, none⟩) (Below.heap_setCell _ _ _ _ (show bw ≠ X by have := hbase.out; omega))]; exact cz
         replace hX6 := hidI hX6
         replace hS7 := hidI hS7
         replace hb7 := hidI hb7
         replace hrow := hidI hrow
         replace hb6 := hidI hb6
         refine hK.out _ _ ?_ (fun hHeld => ?_)
         · try dsimp only
           first | assumption | exact cz
         clear hK
         try simp only [Act.put, lyA, lyB, lyC]
         refine tk 10 100 ?_
         refine rd 11 (fun K hK => ?_)
         rw [if_pos (by rfl)]
         go_simp
         replace cz := k9
         refine hK.out _ _ ?_ (fun hHeld => ?_)
         · try dsimp only
           first | assumption | exact cz
         clear hK
         try simp only [Act.put, lyA, lyB, lyC]
         refine wpAnyH_done (by kernel_rfl) ?_ _
         refine hnorm _ _ ?_
         clear hnorm hpan
         repeat clear hHeld
         try simp only [Exit.then]
         have hst7 : Hid (∃ v', MSt (w6.setCell ⟨X, 2, none⟩ (.slice a2 E2.length c2)) X w1.heap.size r (if k + 1 < n then s + ((k + 1 : Nat) : Int) else s + n - 1) v' (putAll es (pathK s u v wd (k + 1)))) := hidI ⟨_, by
          have hsz : (if k + 1 < n then s + ((k + 1 : Nat) : Int) else s + n - 1) = sk := by
           rw [if_neg hmid]; have := hsk.out; omega
          rw [hsz, ← hnext.out]; exact hS7.out⟩
         have hat7 : Hid (k + 1 < n → v = atP s u (k + 1)) := hidI (fun h => by exact absurd h hmid)
         clear hcall cX
         go_wp2
         go_roundg (n - (k + 1))
         case rel => exact ⟨k + 1, v, by have := hk9.out; omega, by go_num, rfl, hat7, hst7, hb7⟩
         case measure => have := hk9.out; omega
        ·
         obtain ⟨wa, hwa⟩ := exq wr
         have hSa : MSt wa X w1.heap.size r sk (.slice av E.length cv) E := by rw [hwa]; exact hP
         have hba : Below X w5 wa := by rw [hwa]; exact hkb.out
         have hsa : wa.heap.size = wr.heap.size := by rw [hwa]
         have hbx := hP.1
         have hbwa : Below w.heap.size w wa := hbw5.out.trans (hba.mono (by have := hbase.out; omega))
         have cza := hwc.out k hlt wa hbwa
         rw [← hz] at cza
         obtain ⟨wd_, hwd⟩ := exq wa.drew
         have hSd : MSt wd_ X w1.heap.size r sk (.slice av E.length cv) E := by rw [hwd]; exact hSa.drew
         have hsd : wd_.heap.size = wa.heap.size := by rw [hwd]; rfl
         have hbd : Below X w5 wd_ := by rw [hwd]; exact below_dn hba 1
         have cz : wd_.cell? ⟨bw, ow + k, none⟩ = some (.int .i64 z) := by rw [hwd]; exact cza
         have cX := cell_of_heap hSd.1 2
         simp at cX
         have hcall := specPut wd_ (.slice av E.length cv) E v (-z) y hSd.read (by omega)
         obtain ⟨E2, hE2⟩ := exq (putE (v, -z, y) E)
         rw [← hE2] at hcall
         have hnext : E2 = putAll es (pathK s u v wd (k + 1)) := by
          rw [pathK_succ, putAll_snoc, ← hE, hE2]
          congr 1
          unfold edP eB
          rw [← hy, ← hz, ← hn.out, nxP_last hmid]
          rw [if_pos (by omega)]
         have hq1 : wrap64 (-z) = -z := by unfold wrap64; omega
         have hq2 : IntKind.i64.wrap (-z) = -z := IntWalk.i64_in _ (by omega)
         have hzpos : ¬ (0 : Int) < z := by omega
         replace hE2 := hidI hE2
         replace hnext := hidI hnext
         replace hSa := hidI hSa
         replace hSd := hidI hSd
         replace hba := hidI hba
         replace hbd := hidI hbd
         replace hbwa := hidI hbwa
         replace hbx := hidI hbx
         replace hP := hidI hP
         replace hwd := hidI hwd
         replace hz := hidI hz
         replace hy := hidI hy
         replace hE := hidI hE
         replace hsk := hidI hsk
         replace hk9 := hidI hk9
         clear hst
         rw [← hwa]
         replace hwa := hidI hwa
         go_wp2
         refine hideQ (fun _ _ d _ _ h => by cases d <;> exact h) (fun Q' hnorm hpan => ?_)
         refine wp_region_held_drew (S := fun x => x.cell? ⟨bw, ow + k, none⟩ = some (.int .i64 z)) (by kernel_rfl) ?_ (fun hHeld => ?_)
         · try dsimp only
           rw [← hwd.out]
           exact cz
         rw [← hwd.out] at hHeld ⊢
         refine tk 0 101 ?_
         refine tk 2 103 ?_
         refine tk 3 104 ?_
         refine tk 4 105 ?_
         refine tk 5 106 ?_
         refine tk 6 107 ?_
         refine tk 7 108 ?_
         refine tk 8 109 ?_
         refine tk 9 110 ?_
         refine rd 1 (fun K hK => ?_)
         rw [if_pos (by rfl)]
         go_simp
         refine hK.out _ _ ?_ (fun hHeld => ?_)
         · try dsimp only
           first | assumption | exact cz
         clear hK
         try simp only [Act.put, lyA, lyB, lyC]
         refine rd 10 (fun K hK => ?_)
         rw [if_pos (by rfl)]
         go_simp
         go_at_call 120
         (with_reducible refine hcall.mono ?_)
         rintro e w6 ⟨a2, c2, rfl, hrow, hb6⟩
         have hs6 := hb6.size
         replace cz := below_cell cz hb6 (by have := hbase.out; omega)
         have hX6 : w6.heap[X]? = _ := (hb6.block X (by omega)).trans hSd.out.1
         have c6 := cell_of_heap hX6 2
         have f6 := fun j => frozen_of_row w6 X j _ _ hX6
         simp at c6
         have hS7 := hSd.out.put (by omega) hb6 (by have := hbase.out; omega) hrow
         have hb7 : Below X w5 (w6.setCell ⟨X, 2, none⟩ (.slice a2 E2.length c2)) := (hbd.out.trans (hb6.mono (by omega))).setCell (p := ⟨X, 2, none⟩) (Nat.le_refl _) _
         have k9 : (w6.setCell ⟨X, 2, none⟩ (.slice a2 E2.length c2)).cell? ⟨bw, ow + k, none⟩ = some (.int .i64 z) := by
          rw [World.cell?_of_block (w := w6) (a := ⟨bw, ow + k, none⟩) (Below.heap_setCell _ _ _ _ (show bw ≠ X by have := hbase.out; omega))]; exact cz
         replace hX6 := hidI hX6
         replace hS7 := hidI hS7
         replace hb7 := hidI hb7
         replace hrow := hidI hrow
         replace hb6 := hidI hb6
         refine hK.out _ _ ?_ (fun hHeld => ?_)
         · try dsimp only
           first | assumption | exact cz
         clear hK
         try simp only [Act.put, lyA, lyB, lyC]
         refine tk 11 112 ?_
         refine rd 12 (fun K hK => ?_)
         rw [if_pos (by rfl)]
         go_simp
         replace cz := k9
         refine hK.out _ _ ?_ (fun hHeld => ?_)
         · try dsimp only
           first | assumption | exact cz
         clear hK
         try simp only [Act.put, lyA, lyB, lyC]
         refine wpAnyH_done (by kernel_rfl) ?_ _
         refine hnorm _ _ ?_
         clear hnorm hpan
         repeat clear hHeld
         try simp only [Exit.then]
         have hst7 : Hid (∃ v', MSt (w6.setCell ⟨X, 2, none⟩ (.slice a2 E2.length c2)) X w1.heap.size r (if k + 1 < n then s + ((k + 1 : Nat) : Int) else s + n - 1) v' (putAll es (pathK s u v wd (k + 1)))) := hidI ⟨_, by
          have hsz : (if k + 1 < n then s + ((k + 1 : Nat) : Int) else s + n - 1) = sk := by
           rw [if_neg hmid]; have := hsk.out; omega
          rw [hsz, ← hnext.out]; exact hS7.out⟩
         have hat7 : Hid (k + 1 < n → v = atP s u (k + 1)) := hidI (fun h => by exact absurd h hmid)
         clear hcall cX
         go_wp2
         go_roundg (n - (k + 1))
         case rel => exact ⟨k + 1, v, by have := hk9.out; omega, by go_num, rfl, hat7, hst7, hb7⟩
         case measure => have := hk9.out; omega
    · obtain rfl : k = n := by omega
      have hki : ¬ (k : Int) < (k : Int) := by omega
      rw [if_neg (by omega), ← hPS9.out] at hP
      have hEP : E = PE := by rw [hE, hPE9.out]
      subst hEP
      have hR0 : wr.heap[w.heap.size + 1]? = some (.cells #[.int .i64 0, .int .i64 0, .slice none 0 0] 26 (0, 0)) := by rw [hkb.out.block _ (by have := hbase.out; omega)]; exact hR9.out
      have hX9 := hP.1
      have hfin := mst_fin (w := w) (w9 := wr) (X := X) (R := w.heap.size + 1) (base := w1.heap.size) (cap := cv) (r := r) (s' := PS) (E := E) (b := true) (a := av) (by omega) (by have := hbase.out; omega) hbr hP
      have hpz9 := hpz.out
      subst hpz9
      obtain ⟨x0, x1, x2⟩ := cell3 hX9
      obtain ⟨y0, y1, y2⟩ := cell3 hR0
      have f2 := fun j => frozen_of_row wr (w.heap.size + 1) j _ _ hR0
      simp at x0 x1 x2 y0 y1 y2
      replace hfin := hidI hfin
      replace hR0 := hidI hR0
      replace hX9 := hidI hX9
      replace hP := hidI hP
      replace hk9 := hidI hk9
      replace hbr := hidI hbr
      replace hE := hidI hE
      clear hst
      go_wp2
      (try simp only [Exit.inBlock, Exit.then])
      refine ret_cell2 (x := .bool true) rfl rfl rfl (set3 hR0.out _ _ _) Tryz.underlying26 sizeGraph ?_
      exact hfin.out
set_option maxRecDepth 100000 in
set_option maxHeartbeats 3200000 in
theorem specAddPetal (w : World) (r s : Int) (va vw : Value) (es : List Ed) (wd : List Int) (h : ReadE w.heap.size w va es) (hs : -9223372036854775808 ≤ s ∧ s ≤ 9223372036854775807) (hl : es.length ≤ 9000000) (hw : ReadI w.heap.size w vw wd) (hwl : wd.length ≤ 9000000) :
 Calls Tryz.prog 133 #[.agg #[.int .i64 r, .int .i64 s, va], vw] w (LwGraphBool w r (pthS r s es 0 wd 0) (pthE r s es 0 wd 0) (tkP r s es 0 wd 0)) := by
 obtain ⟨a, cap, rfl, hnc⟩ := h.form
 obtain ⟨m, hm⟩ := exq es.length
 have h0 := h
 rw [← hm] at h
 obtain ⟨w1, hw1⟩ := exq ((w.alloc (.cells #[.int .i64 r, .int .i64 s, .slice a m cap] 26)).alloc (.cells #[.int .i64 0, .int .i64 0, .slice none 0 0] 26))
 have hb1 : Below w.heap.size w w1 := by rw [hw1]; exact ((Below.refl _ _).alloc (Nat.le_refl _) _).alloc (by simp) _
 have hs1 : w1.heap.size = w.heap.size + 1 + 1 := by rw [hw1]; simp
 have hg := heap_box w (.cells #[.int .i64 r, .int .i64 s, .slice a m cap] 26) (.cells #[.int .i64 0, .int .i64 0, .slice none 0 0] 26)
 have hk := heap_alloc_new (w.alloc (.cells #[.int .i64 r, .int .i64 s, .slice a m cap] 26)) (.cells #[.int .i64 0, .int .i64 0, .slice none 0 0] 26)
 rw [← hw1] at hg hk
 rw [show (w.alloc (.cells #[.int .i64 r, .int .i64 s, .slice a m cap] 26)).heap.size = w.heap.size + 1 by simp] at hk
 have g0 : w1.cell? ⟨w.heap.size, 0, none⟩ = some (.int .i64 r) := by simpa using cell_of_heap hg 0
 have g1 : w1.cell? ⟨w.heap.size, 1, none⟩ = some (.int .i64 s) := by simpa using cell_of_heap hg 1
 have g2 : w1.cell? ⟨w.heap.size, 2, none⟩ = some (.slice a m cap) := by simpa using cell_of_heap hg 2
 have hcall := specAddPath w1 r s 0 0 _ _ es wd ((h0.below hb1).mono hb1.size) hs (by omega) ((hw.below hb1).mono hb1.size) (by omega)
 obtain ⟨PS, hPS⟩ := exq (pthS r s es 0 wd 0)
 obtain ⟨PE, hPE⟩ := exq (pthE r s es 0 wd 0)
 obtain ⟨B, hB⟩ := exq (tkP r s es 0 wd 0)
 rw [← hPS, ← hPE, ← hB, ← hm] at hcall
 rw [← hPS, ← hPE, ← hB, ← hm]
 obtain ⟨aw, mw, cw, rfl⟩ : ∃ a m c, vw = Value.slice a m c := by obtain ⟨_, a, c, e, _⟩ := hw; exact ⟨_, _, _, e⟩
 replace hm := hidI hm
 replace hPS := hidI hPS
 replace hPE := hidI hPE
 replace hB := hidI hB
 replace h := hidI h
 replace h0 := hidI h0
 replace hw := hidI hw
 replace hg := hidI hg
 replace hk := hidI hk
 replace hnc := hidI hnc
 replace hs1 := hidI hs1
 go_enter Tryz.func133, Tryz.ntmps133
 go_upto_region 1 with fail
 rw [← hw1]
 replace hw1 := hidI hw1
 go_wp2_with fail
 refine hcall.mono ?_
 rintro e w2 ⟨b, cap2, rfl, hrow2, hb2⟩
 clear hcall
 have hs2 := hb2.size
 obtain ⟨N, hN⟩ := exq PE.length
 rw [← hN] at hrow2 ⊢
 have hbw2 : Below w.heap.size w w2 := hb1.trans (hb2.mono hb1.size)
 have hR2 : w2.heap[w.heap.size + 1]? = some (.cells #[.int .i64 0, .int .i64 0, .slice none 0 0] 26 (0, 0)) := by rw [hb2.block _ (by have := hs1.out; omega)]; exact hk.out
 obtain ⟨w3, hw3⟩ := exq (w2.alloc (.cells #[.int .i64 r, .int .i64 PS, .slice b N cap2] 26))
 have hb3 : Below w2.heap.size w2 w3 := by rw [hw3]; exact (Below.refl _ _).alloc (Nat.le_refl _) _
 obtain ⟨x0, x1, x2⟩ := box3 hw3
 have hs3 := hb3.size
 have hR3 : w3.heap[w.heap.size + 1]? = some (.cells #[.int .i64 0, .int .i64 0, .slice none 0 0] 26 (0, 0)) := by rw [hb3.block _ (by have := hs1.out; omega)]; exact hR2
 have hrow3 : RowS 72 3 w3 w1.heap.size w2.heap.size (.slice b N cap2) N (flatE PE) := hrow2.below hb3 (Nat.le_refl _)
 have hbw3 : Below w.heap.size w w3 := hbw2.trans (hb3.mono (by have := hbw2.size; omega))
 have hfin : LwGraphBool w r PS PE B (.returned (.tuple #[.agg #[.int .i64 r, .int .i64 PS, .slice b N cap2], .bool B])) (((w3.setCell ⟨w.heap.size + 1, 0, none⟩ (.int .i64 r)).setCell ⟨w.heap.size + 1, 1, none⟩ (.int .i64 PS)).setCell ⟨w.heap.size + 1, 2, none⟩ (.slice b N cap2)) := by
  have hs := hs1.out
  refine ⟨b, cap2, by rw [hN], ?_, below_set3 hbw3 (by omega)⟩
  rw [← hN]
  exact RowS.wide (hrow3.set3_ (.inl (by omega))) (by omega) (by rw [size_set3]; omega)
 obtain ⟨y0, y1, y2⟩ := cell3 hR3
 have f2 := fun j => frozen_of_row w3 (w.heap.size + 1) j _ _ hR3
 simp at y0 y1 y2
 replace hfin := hidI hfin
 replace hR2 := hidI hR2
 replace hR3 := hidI hR3
 replace hrow2 := hidI hrow2
 replace hrow3 := hidI hrow3
 replace hN := hidI hN
 clear g0 g1 g2
 go_upto_region 2 with fail
 rw [← hw3]
 replace hw3 := hidI hw3
 go_wp2
 (try simp only [Exit.inBlock, Exit.then])
 refine ret_cell2 (x := .bool B) rfl rfl rfl (set3 hR3.out _ _ _) Tryz.underlying26 sizeGraph ?_
 exact hfin.out
set_option maxRecDepth 100000 in
set_option maxHeartbeats 3200000 in
theorem progAddPetal (w : World) (r s : Int) (va vw : Value) (es : List Ed) (wd : List Int) (h : ReadE w.heap.size w va es) (hl : es.length ≤ 9000000) (hw : ReadI w.heap.size w vw wd) (hwl : wd.length ≤ 9000000) :
 Calls Tryz.prog 138 #[.agg #[.int .i64 r, .int .i64 s, va], vw] w (LwGraphBool w r (pthS r s es 0 wd 0) (pthE r s es 0 wd 0) (tkP r s es 0 wd 0)) := by
 obtain ⟨a, cap, rfl, hnc⟩ := h.form
 obtain ⟨m, hm⟩ := exq es.length
 have h0 := h
 rw [← hm] at h
 obtain ⟨w1, hw1⟩ := exq ((w.alloc (.cells #[.int .i64 r, .int .i64 s, .slice a m cap] 26)).alloc (.cells #[.int .i64 0, .int .i64 0, .slice none 0 0] 26))
 have hb1 : Below w.heap.size w w1 := by rw [hw1]; exact ((Below.refl _ _).alloc (Nat.le_refl _) _).alloc (by simp) _
 have hs1 : w1.heap.size = w.heap.size + 1 + 1 := by rw [hw1]; simp
 have hg := heap_box w (.cells #[.int .i64 r, .int .i64 s, .slice a m cap] 26) (.cells #[.int .i64 0, .int .i64 0, .slice none 0 0] 26)
 have hk := heap_alloc_new (w.alloc (.cells #[.int .i64 r, .int .i64 s, .slice a m cap] 26)) (.cells #[.int .i64 0, .int .i64 0, .slice none 0 0] 26)
 rw [← hw1] at hg hk
 rw [show (w.alloc (.cells #[.int .i64 r, .int .i64 s, .slice a m cap] 26)).heap.size = w.heap.size + 1 by simp] at hk
 have g0 : w1.cell? ⟨w.heap.size, 0, none⟩ = some (.int .i64 r) := by simpa using cell_of_heap hg 0
 have g1 : w1.cell? ⟨w.heap.size, 1, none⟩ = some (.int .i64 s) := by simpa using cell_of_heap hg 1
 have g2 : w1.cell? ⟨w.heap.size, 2, none⟩ = some (.slice a m cap) := by simpa using cell_of_heap hg 2
 have hcall := progAddPath w1 r s 0 0 _ _ es wd ((h0.below hb1).mono hb1.size) (by omega) ((hw.below hb1).mono hb1.size) (by omega)
 obtain ⟨PS, hPS⟩ := exq (pthS r s es 0 wd 0)
 obtain ⟨PE, hPE⟩ := exq (pthE r s es 0 wd 0)
 obtain ⟨B, hB⟩ := exq (tkP r s es 0 wd 0)
 rw [← hPS, ← hPE, ← hB, ← hm] at hcall
 rw [← hPS, ← hPE, ← hB, ← hm]
 obtain ⟨aw, mw, cw, rfl⟩ : ∃ a m c, vw = Value.slice a m c := by obtain ⟨_, a, c, e, _⟩ := hw; exact ⟨_, _, _, e⟩
 replace hm := hidI hm
 replace hPS := hidI hPS
 replace hPE := hidI hPE
 replace hB := hidI hB
 replace h := hidI h
 replace h0 := hidI h0
 replace hw := hidI hw
 replace hg := hidI hg
 replace hk := hidI hk
 replace hnc := hidI hnc
 replace hs1 := hidI hs1
 go_enter Tryz.func138, Tryz.ntmps138
 go_upto_region 1 with fail
 rw [← hw1]
 replace hw1 := hidI hw1
 go_wp2_with fail
 refine hcall.mono ?_
 rintro e w2 ⟨b, cap2, rfl, hrow2, hb2⟩
 clear hcall
 have hs2 := hb2.size
 obtain ⟨N, hN⟩ := exq PE.length
 rw [← hN] at hrow2 ⊢
 have hbw2 : Below w.heap.size w w2 := hb1.trans (hb2.mono hb1.size)
 have hR2 : w2.heap[w.heap.size + 1]? = some (.cells #[.int .i64 0, .int .i64 0, .slice none 0 0] 26 (0, 0)) := by rw [hb2.block _ (by have := hs1.out; omega)]; exact hk.out
 obtain ⟨w3, hw3⟩ := exq w2
 have hb3 : Below w2.heap.size w2 w3 := by rw [hw3]; exact Below.refl _ _
 have hs3 := hb3.size
 have hR3 : w3.heap[w.heap.size + 1]? = some (.cells #[.int .i64 0, .int .i64 0, .slice none 0 0] 26 (0, 0)) := by rw [hb3.block _ (by have := hs1.out; omega)]; exact hR2
 have hrow3 : RowS 72 3 w3 w1.heap.size w2.heap.size (.slice b N cap2) N (flatE PE) := hrow2.below hb3 (Nat.le_refl _)
 have hbw3 : Below w.heap.size w w3 := hbw2.trans (hb3.mono (by have := hbw2.size; omega))
 have hfin : LwGraphBool w r PS PE B (.returned (.tuple #[.agg #[.int .i64 r, .int .i64 PS, .slice b N cap2], .bool B])) (((w3.setCell ⟨w.heap.size + 1, 0, none⟩ (.int .i64 r)).setCell ⟨w.heap.size + 1, 1, none⟩ (.int .i64 PS)).setCell ⟨w.heap.size + 1, 2, none⟩ (.slice b N cap2)) := by
  have hs := hs1.out
  refine ⟨b, cap2, by rw [hN], ?_, below_set3 hbw3 (by omega)⟩
  rw [← hN]
  exact RowS.wide (hrow3.set3_ (.inl (by omega))) (by omega) (by rw [size_set3]; omega)
 obtain ⟨y0, y1, y2⟩ := cell3 hR3
 have f2 := fun j => frozen_of_row w3 (w.heap.size + 1) j _ _ hR3
 simp at y0 y1 y2
 replace hfin := hidI hfin
 replace hR2 := hidI hR2
 replace hR3 := hidI hR3
 replace hrow2 := hidI hrow2
 replace hrow3 := hidI hrow3
 replace hN := hidI hN
 clear g0 g1 g2
 rw [← hw3]
 replace hw3 := hidI hw3
 go_wp2
 (try simp only [Exit.inBlock, Exit.then])
 refine ret_cell2 (x := .bool B) rfl rfl rfl (set3 hR3.out _ _ _) Tryz.underlying26 sizeGraph ?_
 exact hfin.out
def floS (r : Int) (p : Int × List Ed) (w : List Int) : Int × List Ed := (pthS r p.1 p.2 0 w 0, pthE r p.1 p.2 0 w 0)
def floL (r : Int) (zss : List (List Int)) : Int × List Ed := zss.foldl (floS r) (1, [])
theorem floL_take {r : Int} {zss : List (List Int)} {k : Nat} (h : k < zss.length) : floL r (zss.take (k + 1)) = floS r (floL r (zss.take k)) (zss.getD k []) := by
 unfold floL
 rw [List.take_add_one, List.getElem?_eq_getElem h, Option.toList_some, List.foldl_append, List.getD_eq_getElem?_getD, List.getElem?_eq_getElem h]
 rfl
theorem floS_lim {r : Int} {p : Int × List Ed} {w : List Int} (h : 1 ≤ p.1 ∧ p.1 ≤ 40) : 1 ≤ (floS r p w).1 ∧ (floS r p w).1 ≤ 40 := by
 unfold floS pthS
 simp only
 split
 · rename_i ht
   obtain ⟨_, _, _, _, h5, h6, _⟩ := tkP_yes ht
   omega
 · exact h
theorem floL_lim (r : Int) (zss : List (List Int)) : ∀ k, k ≤ zss.length → (1 ≤ (floL r (zss.take k)).1 ∧ (floL r (zss.take k)).1 ≤ 40) ∧ (floL r (zss.take k)).2.length ≤ sumN ((zss.map List.length).take k) := by
 intro k
 induction k with
 | zero => intro _; exact ⟨⟨by simp [floL], by simp [floL]⟩, by simp [floL, sumN]⟩
 | succ k ih =>
  intro hk
  obtain ⟨h1, h2⟩ := ih (by omega)
  rw [floL_take (by omega), totL_take (by omega)]
  refine ⟨floS_lim h1, ?_⟩
  have := pthE_length r (floL r (zss.take k)).1 (floL r (zss.take k)).2 0 (zss.getD k []) 0
  unfold floS
  simp only
  omega
def floR (r : Int) (zss : List (List Int)) : Int := if arew r zss = true then r else 0
def floZ (r : Int) (zss : List (List Int)) : Int := if arew r zss = true then (floL r zss).1 else 0
def floE (r : Int) (zss : List (List Int)) : List Ed := if arew r zss = true then (floL r zss).2 else []
theorem floE_length (r : Int) (zss : List (List Int)) : (floE r zss).length ≤ totL zss := by
 unfold floE
 split
 · have := (floL_lim r zss zss.length (Nat.le_refl _)).2
   rw [List.take_length, List.take_of_length_le (by rw [List.length_map]; omega)] at this
   exact this
 · simp
theorem MSt.set3 {w w' : World} {X base : Nat} {r sz r' sz' : Int} {v v' : Value} {E E' : List Ed} (h : MSt w X base r sz v E) (hX : X < w.heap.size) (hb : Below w.heap.size w w') (hbase : base ≤ w.heap.size) (hr : RowS 72 3 w' w.heap.size w'.heap.size v' E'.length (flatE E')) :
 MSt (((w'.setCell ⟨X, 0, none⟩ (.int .i64 r')).setCell ⟨X, 1, none⟩ (.int .i64 sz')).setCell ⟨X, 2, none⟩ v') X base r' sz' v' E' := by
 obtain ⟨h1, lo, hi, h2, h3, h4, h5⟩ := h
 have hx : w'.heap[X]? = some (.cells #[.int .i64 r, .int .i64 sz, v] 26 (0, 0)) := by rw [hb.block X hX]; exact h1
 refine ⟨Go.Proofs.YtpjlamnjiilgbaaGreat.set3 hx _ _ _, w.heap.size, w'.heap.size, hr.keep (fun k q1 q2 => ?_), hbase, by rw [size_set3K]; exact Nat.le_refl _, .inr hX⟩
 have hk : k ≠ X := by omega
 rw [Below.heap_setCell _ _ _ _ hk, Below.heap_setCell _ _ _ _ hk, Below.heap_setCell _ _ _ _ hk]
set_option maxRecDepth 100000 in
set_option maxHeartbeats 6400000 in
theorem progFlower (w : World) (r : Int) (v : Value) (zss : List (List Int)) (h : ReadSS w.heap.size w v zss) (hs : totL zss ≤ 1048576) :
 Calls Tryz.prog 101 #[.int .i64 r, v] w (LwGraphBool w (floR r zss) (floZ r zss) (floE r zss) (arew r zss)) := by
 have h' := h
 obtain ⟨hl, a, cap, rfl, _, _⟩ := h'
 obtain ⟨n, hn⟩ := exq zss.length
 obtain ⟨w1, hw1⟩ := exq (w.alloc (.cells #[.int .i64 0, .int .i64 0, .slice none 0 0] 26))
 have hb1 : Below w.heap.size w w1 := by rw [hw1]; exact (Below.refl _ _).alloc (Nat.le_refl _) _
 have hs1 : w1.heap.size = w.heap.size + 1 := by rw [hw1]; simp
 have hk := heap_alloc_new w (.cells #[.int .i64 0, .int .i64 0, .slice none 0 0] 26)
 rw [← hw1] at hk
 have hare := progAreW w1 (.slice a zss.length cap) zss r ((h.below hb1).mono hb1.size) (by omega)
 rw [← hn] at hare h hl
 have hfull : zss.take n = zss := List.take_of_length_le (by omega)
 obtain ⟨B, hB⟩ := exq (arew r zss)
 have hr13 : B = true → 1 ≤ r ∧ r ≤ 3 := fun hh => by
  rw [hB] at hh; unfold arew at hh; rw [decide_eq_true_eq] at hh; exact ⟨hh.2.1, hh.2.2.1⟩
 obtain ⟨FR, hFR⟩ := exq (floR r zss)
 obtain ⟨FZ, hFZ⟩ := exq (floZ r zss)
 obtain ⟨FE, hFE⟩ := exq (floE r zss)
 have hno : B = false → FR = 0 ∧ FZ = 0 ∧ FE = [] := fun hh => by
  rw [hFR, hFZ, hFE]; unfold floR floZ floE; rw [← hB, hh]; exact ⟨rfl, rfl, rfl⟩
 have hyes : B = true → FR = r ∧ FZ = (floL r (zss.take n)).1 ∧ FE = (floL r (zss.take n)).2 := fun hh => by
  rw [hFR, hFZ, hFE, hfull]; unfold floR floZ floE; rw [← hB, hh]; exact ⟨rfl, rfl, rfl⟩
 rw [← hB] at hare
 rw [← hn, ← hB, ← hFR, ← hFZ, ← hFE]
 have hzl : ∀ i, i < n → (zss.getD i []).length ≤ 1048576 := fun i hi => by
  have h1 := sumN_getD (zss.map List.length) i (by rw [List.length_map]; omega)
  rw [getD_map_len] at h1
  have h2 : sumN (zss.map List.length) = totL zss := rfl
  omega
 have hlim : ∀ k, k ≤ n → (1 ≤ (floL r (zss.take k)).1 ∧ (floL r (zss.take k)).1 ≤ 40) ∧ (floL r (zss.take k)).2.length ≤ 1048576 := fun k hk => by
  obtain ⟨h1, h2⟩ := floL_lim r zss k (by omega)
  have h3 := sumN_le (zss.map List.length) k
  have h4 : sumN (zss.map List.length) = totL zss := rfl
  exact ⟨h1, by omega⟩
 replace hn := hidI hn
 replace hB := hidI hB
 replace hFR := hidI hFR
 replace hFZ := hidI hFZ
 replace hFE := hidI hFE
 replace hno := hidI hno
 replace hyes := hidI hyes
 replace hzl := hidI hzl
 replace hlim := hidI hlim
 replace hr13 := hidI hr13
 replace h := hidI h
 replace hk := hidI hk
 replace hs1 := hidI hs1
 replace hfull := hidI hfull
 go_enter Tryz.func101, Tryz.ntmps101
 go_upto_region 1 with fail
 rw [← hw1]
 replace hw1 := hidI hw1
 go_wp2_with fail
 refine hare.mono ?_
 rintro e w2 ⟨rfl, hb2⟩
 clear hare
 have hs2 := hb2.size
 have hR2 : w2.heap[w.heap.size]? = some (.cells #[.int .i64 0, .int .i64 0, .slice none 0 0] 26 (0, 0)) := by rw [hb2.block _ (by have := hs1.out; omega)]; exact hk.out
 have hbw2 : Below w.heap.size w w2 := hb1.trans (hb2.mono hb1.size)
 cases B with
 | false =>
  obtain ⟨e1, e2, e3⟩ := hno.out rfl
  subst e1
  subst e2
  subst e3
  obtain ⟨y0, y1, y2⟩ := cell3 hR2
  have f2 := fun j => frozen_of_row w2 w.heap.size j _ _ hR2
  simp at y0 y1 y2
  have hfin : LwGraphBool w 0 0 [] false (.returned (.tuple #[.agg #[.int .i64 0, .int .i64 0, .slice none 0 0], .bool false])) (((w2.setCell ⟨w.heap.size, 0, none⟩ (.int .i64 0)).setCell ⟨w.heap.size, 1, none⟩ (.int .i64 0)).setCell ⟨w.heap.size, 2, none⟩ (.slice none 0 0)) :=
   ⟨none, 0, rfl, ⟨rfl, by simp, .inl ⟨rfl, rfl⟩⟩, below_set3 hbw2 (Nat.le_refl _)⟩
  replace hfin := hidI hfin
  replace hR2 := hidI hR2
  go_wp2
  (try simp only [Exit.inBlock, Exit.then])
  refine ret_cell2 (x := .bool false) rfl rfl rfl (Go.Proofs.YtpjlamnjiilgbaaGreat.set3 hR2.out _ _ _) Tryz.underlying26 sizeGraph ?_
  exact hfin.out
 | true =>
  obtain ⟨e1, e2, e3⟩ := hyes.out rfl
  have hr := hr13.out rfl
  have hnew := progNewG w2 r
  rw [if_pos hr, if_pos hr, decide_eq_true hr] at hnew
  replace hR2 := hidI hR2
  go_wp2_with fail
  refine hnew.mono ?_
  rintro e w3 ⟨b3, c3, rfl, hrow3, hb3⟩
  clear hnew
  have hs3 := hb3.size
  obtain ⟨w4, hw4⟩ := exq (w3.alloc (.cells #[.int .i64 r, .int .i64 1, .slice b3 ([] : List Ed).length c3] 26))
  have hb4 : Below w3.heap.size w3 w4 := by rw [hw4]; exact (Below.refl _ _).alloc (Nat.le_refl _) _
  have hs4 : w4.heap.size = w3.heap.size + 1 := by rw [hw4]; simp
  obtain ⟨X, hX⟩ := exq w3.heap.size
  have hX4 : w4.heap[X]? = some (.cells #[.int .i64 r, .int .i64 1, .slice b3 ([] : List Ed).length c3] 26 (0, 0)) := by rw [hw4, hX]; exact heap_alloc_new _ _
  have hst4 : MSt w4 X w1.heap.size r 1 (.slice b3 ([] : List Ed).length c3) [] := ⟨hX4, w2.heap.size, w3.heap.size, hrow3.below hb4 (Nat.le_refl _), hs2, by omega, .inl (by omega)⟩
  have hbw4 : Below w.heap.size w w4 := (hbw2.trans (hb3.mono hbw2.size)).trans (hb4.mono (by have := hbw2.size; omega))
  have hR4 : w4.heap[w.heap.size]? = some (.cells #[.int .i64 0, .int .i64 0, .slice none 0 0] 26 (0, 0)) := by
   rw [hb4.block _ (by have := hs1.out; omega), hb3.block _ (by have := hs1.out; omega)]; exact hR2.out
  have hbX : w1.heap.size ≤ X := by omega
  have hX4s : X < w4.heap.size := by omega
  have hst0 : Hid (∃ v', MSt w4 X w1.heap.size r (floL r (zss.take 0)).1 v' (floL r (zss.take 0)).2) := hidI ⟨_, hst4⟩
  have hk0 : Hid (Below X w4 w4) := hidI (Below.refl _ _)
  replace hX4 := hidI hX4
  replace hst4 := hidI hst4
  replace hbw4 := hidI hbw4
  replace hR4 := hidI hR4
  replace hrow3 := hidI hrow3
  replace hs4 := hidI hs4
  replace e2 := hidI e2
  replace e3 := hidI e3
  subst e1
  go_upto_region 4 with fail
  try simp only [List.length_nil] at hw4
  rw [← hw4, ← hX]
  replace hw4 := hidI hw4
  replace hX := hidI hX
  clear hb4
  go_wp2
  go_loopg [9, 22] n (fun gg x1 i wr => ∃ k : Nat, k + gg = n ∧ i = .int .i64 k ∧ Hid (∃ v', MSt wr X w1.heap.size FR (floL FR (zss.take k)).1 v' (floL FR (zss.take k)).2) ∧ Hid (Below X w4 wr))
  case atStart => exact ⟨0, by omega, rfl, hst0, hk0⟩
  case round =>
   clear hst0 hk0
   obtain ⟨k, hk9, rfl, hst, hkb⟩ := hrel
   obtain ⟨v6, hP⟩ := hst.out
   obtain ⟨hl1, hl2⟩ := hlim.out k (by omega)
   obtain ⟨sz, hsz⟩ := exq ((floL FR (zss.take k)).1)
   obtain ⟨E, hE⟩ := exq ((floL FR (zss.take k)).2)
   rw [← hsz, ← hE] at hP
   rw [← hsz] at hl1
   rw [← hE] at hl2
   obtain ⟨av, cv, rfl⟩ := hP.form
   have hbr : Below w.heap.size w wr := hbw4.out.trans (hkb.out.mono (by have := hs1.out; omega))
   have hXr : X < wr.heap.size := by have := hkb.out.size; omega
   have hX9 := hP.1
   obtain ⟨x0, x1, x2⟩ := cell3 hX9
   simp at x0 x1 x2
   by_cases hlt : k < n
   · have hki : (k : Int) < (n : Int) := by omega
     obtain ⟨bu, ou, u, rfl, hbu, cu, ru⟩ := h.out.at_ k (by have := hn.out; omega)
     have cur := below_cell cu hbr hbu
     obtain ⟨z, hz⟩ := exq (zss.getD k [])
     have hzl9 := hzl.out k hlt
     rw [← hz] at ru hzl9
     have hstep := floL_take (r := FR) (zss := zss) (k := k) (by have := hn.out; omega)
     obtain ⟨N, hN⟩ := exq E.length
     obtain ⟨PS, hPS⟩ := exq (pthS FR sz E 0 z 0)
     obtain ⟨PE, hPE⟩ := exq (pthE FR sz E 0 z 0)
     obtain ⟨PB, hPB⟩ := exq (tkP FR sz E 0 z 0)
     have hnx1 : (floL FR (zss.take (k + 1))).1 = PS := by rw [hstep, ← hz, hPS, hsz, hE]; rfl
     have hnx2 : (floL FR (zss.take (k + 1))).2 = PE := by rw [hstep, ← hz, hPE, hsz, hE]; rfl
     have hcall := progAddPetal wr FR sz (.slice av E.length cv) u E z hP.read (by omega) ((ru.below hbr).mono hbr.size) (by omega)
     rw [← hPS, ← hPE, ← hPB, ← hN] at hcall
     rw [← hN] at hX9 hP x2
     replace hsz := hidI hsz
     replace hE := hidI hE
     replace hz := hidI hz
     replace hstep := hidI hstep
     replace hN := hidI hN
     replace hPS := hidI hPS
     replace hPE := hidI hPE
     replace hPB := hidI hPB
     replace hnx1 := hidI hnx1
     replace hnx2 := hidI hnx2
     replace hX9 := hidI hX9
     replace hP := hidI hP
     replace hbr := hidI hbr
     replace hk9 := hidI hk9
     replace ru := hidI ru
     clear hst cu
     go_wp2_with fail
     refine hcall.mono ?_
     rintro e w6 ⟨a6, c6, rfl, hrow6, hb6⟩
     clear hcall
     have hs6 := hb6.size
     obtain ⟨M, hM⟩ := exq PE.length
     have hS7 := (show MSt wr X w1.heap.size FR sz (.slice av N cv) E from hP.out).set3 (r' := FR) (sz' := PS) hXr hb6 (by omega) hrow6
     have hX6 : w6.heap[X]? = some (.cells #[.int .i64 FR, .int .i64 sz, .slice av N cv] 26 (0, 0)) := (hb6.block X hXr).trans hX9.out
     rw [← hM] at hS7 ⊢
     obtain ⟨k0, k1, k2⟩ := cell3 hX6
     have fz := fun j => frozen_of_row w6 X j _ _ hX6
     simp at k0 k1 k2
     have hst7 : Hid (∃ v', MSt (((w6.setCell ⟨X, 0, none⟩ (.int .i64 FR)).setCell ⟨X, 1, none⟩ (.int .i64 PS)).setCell ⟨X, 2, none⟩ (.slice a6 M c6)) X w1.heap.size FR (floL FR (zss.take (k + 1))).1 v' (floL FR (zss.take (k + 1))).2) := hidI ⟨_, by rw [hnx1.out, hnx2.out]; exact hS7⟩
     have hb7 : Hid (Below X w4 (((w6.setCell ⟨X, 0, none⟩ (.int .i64 FR)).setCell ⟨X, 1, none⟩ (.int .i64 PS)).setCell ⟨X, 2, none⟩ (.slice a6 M c6))) := hidI (below_set3 (hkb.out.trans (hb6.mono (by omega))) (Nat.le_refl _))
     replace hX6 := hidI hX6
     replace hM := hidI hM
     clear hS7 hb6 hrow6 x0 x1 x2 cur
     go_wp2
     go_roundg (n - (k + 1))
     case rel => exact ⟨k + 1, by have := hk9.out; omega, by go_num, hst7, hb7⟩
     case measure => have := hk9.out; omega
   · obtain rfl : k = n := by omega
     have hki : ¬ (k : Int) < (k : Int) := by omega
     have hEP : FE = E := by rw [e3.out, hE]
     have hZP : FZ = sz := by rw [e2.out, hsz]
     subst hEP
     subst hZP
     have hR0 : wr.heap[w.heap.size]? = some (.cells #[.int .i64 0, .int .i64 0, .slice none 0 0] 26 (0, 0)) := by rw [hkb.out.block _ (by have := hs1.out; omega)]; exact hR4.out
     have hfin := mst_fin (w := w) (w9 := wr) (X := X) (R := w.heap.size) (base := w1.heap.size) (cap := cv) (r := FR) (s' := FZ) (E := FE) (b := true) (a := av) (Nat.le_refl _) (by have := hs1.out; omega) hbr hP
     obtain ⟨y0, y1, y2⟩ := cell3 hR0
     have f2 := fun j => frozen_of_row wr w.heap.size j _ _ hR0
     simp at y0 y1 y2
     replace hfin := hidI hfin
     replace hR0 := hidI hR0
     replace hX9 := hidI hX9
     replace hP := hidI hP
     replace hk9 := hidI hk9
     replace hbr := hidI hbr
     replace hE := hidI hE
     replace hsz := hidI hsz
     clear hst
     go_wp2
     (try simp only [Exit.inBlock, Exit.then])
     refine ret_cell2 (x := .bool true) rfl rfl rfl (Go.Proofs.YtpjlamnjiilgbaaGreat.set3 hR0.out _ _ _) Tryz.underlying26 sizeGraph ?_
     exact hfin.out
set_option maxRecDepth 100000 in
set_option maxHeartbeats 6400000 in
theorem specFlower (w : World) (r : Int) (v : Value) (zss : List (List Int)) (h : ReadSS w.heap.size w v zss) (hs : totL zss ≤ 1048576) :
 Calls Tryz.prog 99 #[.int .i64 r, v] w (LwGraphBool w (floR r zss) (floZ r zss) (floE r zss) (arew r zss)) := by
 have h' := h
 obtain ⟨hl, a, cap, rfl, _, _⟩ := h'
 obtain ⟨n, hn⟩ := exq zss.length
 obtain ⟨w1, hw1⟩ := exq (w.alloc (.cells #[.int .i64 0, .int .i64 0, .slice none 0 0] 26))
 have hb1 : Below w.heap.size w w1 := by rw [hw1]; exact (Below.refl _ _).alloc (Nat.le_refl _) _
 have hs1 : w1.heap.size = w.heap.size + 1 := by rw [hw1]; simp
 have hk := heap_alloc_new w (.cells #[.int .i64 0, .int .i64 0, .slice none 0 0] 26)
 rw [← hw1] at hk
 have hare := specAreW w1 w.heap.size (.slice a zss.length cap) zss r (h.below hb1) (by omega)
 rw [← hn] at hare h hl
 have hfull : zss.take n = zss := List.take_of_length_le (by omega)
 obtain ⟨B, hB⟩ := exq (arew r zss)
 have hr13 : B = true → 1 ≤ r ∧ r ≤ 3 := fun hh => by
  rw [hB] at hh; unfold arew at hh; rw [decide_eq_true_eq] at hh; exact ⟨hh.2.1, hh.2.2.1⟩
 obtain ⟨FR, hFR⟩ := exq (floR r zss)
 obtain ⟨FZ, hFZ⟩ := exq (floZ r zss)
 obtain ⟨FE, hFE⟩ := exq (floE r zss)
 have hno : B = false → FR = 0 ∧ FZ = 0 ∧ FE = [] := fun hh => by
  rw [hFR, hFZ, hFE]; unfold floR floZ floE; rw [← hB, hh]; exact ⟨rfl, rfl, rfl⟩
 have hyes : B = true → FR = r ∧ FZ = (floL r (zss.take n)).1 ∧ FE = (floL r (zss.take n)).2 := fun hh => by
  rw [hFR, hFZ, hFE, hfull]; unfold floR floZ floE; rw [← hB, hh]; exact ⟨rfl, rfl, rfl⟩
 rw [← hB] at hare
 rw [← hn, ← hB, ← hFR, ← hFZ, ← hFE]
 have hzl : ∀ i, i < n → (zss.getD i []).length ≤ 1048576 := fun i hi => by
  have h1 := sumN_getD (zss.map List.length) i (by rw [List.length_map]; omega)
  rw [getD_map_len] at h1
  have h2 : sumN (zss.map List.length) = totL zss := rfl
  omega
 have hlim : ∀ k, k ≤ n → (1 ≤ (floL r (zss.take k)).1 ∧ (floL r (zss.take k)).1 ≤ 40) ∧ (floL r (zss.take k)).2.length ≤ 1048576 := fun k hk => by
  obtain ⟨h1, h2⟩ := floL_lim r zss k (by omega)
  have h3 := sumN_le (zss.map List.length) k
  have h4 : sumN (zss.map List.length) = totL zss := rfl
  exact ⟨h1, by omega⟩
 replace hn := hidI hn
 replace hB := hidI hB
 replace hFR := hidI hFR
 replace hFZ := hidI hFZ
 replace hFE := hidI hFE
 replace hno := hidI hno
 replace hyes := hidI hyes
 replace hzl := hidI hzl
 replace hlim := hidI hlim
 replace hr13 := hidI hr13
 replace h := hidI h
 replace hk := hidI hk
 replace hs1 := hidI hs1
 replace hfull := hidI hfull
 go_enter Tryz.func99, Tryz.ntmps99
 go_upto_region 1 with fail
 rw [← hw1]
 replace hw1 := hidI hw1
 go_wp2_with fail
 refine hare.mono ?_
 rintro e w2 ⟨rfl, m2, hw2⟩
 have hb2 : Below w1.heap.size w1 w2 := by rw [hw2]; exact below_dn (Below.refl _ _) _
 replace hw2 := hidI hw2
 clear hare
 have hs2 := hb2.size
 have hR2 : w2.heap[w.heap.size]? = some (.cells #[.int .i64 0, .int .i64 0, .slice none 0 0] 26 (0, 0)) := by rw [hb2.block _ (by have := hs1.out; omega)]; exact hk.out
 have hbw2 : Below w.heap.size w w2 := hb1.trans (hb2.mono hb1.size)
 cases B with
 | false =>
  obtain ⟨e1, e2, e3⟩ := hno.out rfl
  subst e1
  subst e2
  subst e3
  obtain ⟨y0, y1, y2⟩ := cell3 hR2
  have f2 := fun j => frozen_of_row w2 w.heap.size j _ _ hR2
  simp at y0 y1 y2
  have hfin : LwGraphBool w 0 0 [] false (.returned (.tuple #[.agg #[.int .i64 0, .int .i64 0, .slice none 0 0], .bool false])) (((w2.setCell ⟨w.heap.size, 0, none⟩ (.int .i64 0)).setCell ⟨w.heap.size, 1, none⟩ (.int .i64 0)).setCell ⟨w.heap.size, 2, none⟩ (.slice none 0 0)) :=
   ⟨none, 0, rfl, ⟨rfl, by simp, .inl ⟨rfl, rfl⟩⟩, below_set3 hbw2 (Nat.le_refl _)⟩
  replace hfin := hidI hfin
  replace hR2 := hidI hR2
  go_wp2
  (try simp only [Exit.inBlock, Exit.then])
  refine ret_cell2 (x := .bool false) rfl rfl rfl (Go.Proofs.YtpjlamnjiilgbaaGreat.set3 hR2.out _ _ _) Tryz.underlying26 sizeGraph ?_
  exact hfin.out
 | true =>
  obtain ⟨e1, e2, e3⟩ := hyes.out rfl
  have hr := hr13.out rfl
  have hnew := specNewG w2 r
  rw [if_pos hr, if_pos hr, decide_eq_true hr] at hnew
  replace hR2 := hidI hR2
  go_wp2_with fail
  refine hnew.mono ?_
  rintro e w3 ⟨b3, c3, rfl, hrow3, hb3⟩
  clear hnew
  have hs3 := hb3.size
  obtain ⟨w4, hw4⟩ := exq (w3.alloc (.cells #[.int .i64 r, .int .i64 1, .slice b3 ([] : List Ed).length c3] 26))
  have hb4 : Below w3.heap.size w3 w4 := by rw [hw4]; exact (Below.refl _ _).alloc (Nat.le_refl _) _
  have hs4 : w4.heap.size = w3.heap.size + 1 := by rw [hw4]; simp
  obtain ⟨X, hX⟩ := exq w3.heap.size
  have hX4 : w4.heap[X]? = some (.cells #[.int .i64 r, .int .i64 1, .slice b3 ([] : List Ed).length c3] 26 (0, 0)) := by rw [hw4, hX]; exact heap_alloc_new _ _
  have hst4 : MSt w4 X w1.heap.size r 1 (.slice b3 ([] : List Ed).length c3) [] := ⟨hX4, w2.heap.size, w3.heap.size, hrow3.below hb4 (Nat.le_refl _), hs2, by omega, .inl (by omega)⟩
  have hbw4 : Below w.heap.size w w4 := (hbw2.trans (hb3.mono hbw2.size)).trans (hb4.mono (by have := hbw2.size; omega))
  have hR4 : w4.heap[w.heap.size]? = some (.cells #[.int .i64 0, .int .i64 0, .slice none 0 0] 26 (0, 0)) := by
   rw [hb4.block _ (by have := hs1.out; omega), hb3.block _ (by have := hs1.out; omega)]; exact hR2.out
  have hbX : w1.heap.size ≤ X := by omega
  have hX4s : X < w4.heap.size := by omega
  have hst0 : Hid (∃ v', MSt w4 X w1.heap.size r (floL r (zss.take 0)).1 v' (floL r (zss.take 0)).2) := hidI ⟨_, hst4⟩
  have hk0 : Hid (Below X w4 w4) := hidI (Below.refl _ _)
  replace hX4 := hidI hX4
  replace hst4 := hidI hst4
  replace hbw4 := hidI hbw4
  replace hR4 := hidI hR4
  replace hrow3 := hidI hrow3
  replace hs4 := hidI hs4
  replace e2 := hidI e2
  replace e3 := hidI e3
  subst e1
  go_upto_region 4 with fail
  try simp only [List.length_nil] at hw4
  rw [← hw4, ← hX]
  replace hw4 := hidI hw4
  replace hX := hidI hX
  clear hb4
  go_wp2
  go_loopg [8, 9, 10] n (fun gg i x1 x2 wr => ∃ k : Nat, k + gg = n ∧ i = .int .i64 k ∧ Hid (∃ v', MSt wr X w1.heap.size FR (floL FR (zss.take k)).1 v' (floL FR (zss.take k)).2) ∧ Hid (Below X w4 wr))
  case atStart => exact ⟨0, by omega, rfl, hst0, hk0⟩
  case round =>
   clear hst0 hk0
   obtain ⟨k, hk9, rfl, hst, hkb⟩ := hrel
   obtain ⟨v6, hP⟩ := hst.out
   obtain ⟨hl1, hl2⟩ := hlim.out k (by omega)
   obtain ⟨sz, hsz⟩ := exq ((floL FR (zss.take k)).1)
   obtain ⟨E, hE⟩ := exq ((floL FR (zss.take k)).2)
   rw [← hsz, ← hE] at hP
   rw [← hsz] at hl1
   rw [← hE] at hl2
   obtain ⟨av, cv, rfl⟩ := hP.form
   have hbr : Below w.heap.size w wr := hbw4.out.trans (hkb.out.mono (by have := hs1.out; omega))
   have hXr : X < wr.heap.size := by have := hkb.out.size; omega
   have hX9 := hP.1
   obtain ⟨x0, x1, x2⟩ := cell3 hX9
   simp at x0 x1 x2
   by_cases hlt : k < n
   · have hki : (k : Int) < (n : Int) := by omega
     obtain ⟨bu, ou, u, rfl, hbu, cu, ru⟩ := h.out.at_ k (by have := hn.out; omega)
     have cur := below_cell cu hbr hbu
     obtain ⟨z, hz⟩ := exq (zss.getD k [])
     have hzl9 := hzl.out k hlt
     rw [← hz] at ru hzl9
     have hstep := floL_take (r := FR) (zss := zss) (k := k) (by have := hn.out; omega)
     obtain ⟨N, hN⟩ := exq E.length
     obtain ⟨PS, hPS⟩ := exq (pthS FR sz E 0 z 0)
     obtain ⟨PE, hPE⟩ := exq (pthE FR sz E 0 z 0)
     obtain ⟨PB, hPB⟩ := exq (tkP FR sz E 0 z 0)
     have hnx1 : (floL FR (zss.take (k + 1))).1 = PS := by rw [hstep, ← hz, hPS, hsz, hE]; rfl
     have hnx2 : (floL FR (zss.take (k + 1))).2 = PE := by rw [hstep, ← hz, hPE, hsz, hE]; rfl
     obtain ⟨wd_, hwd⟩ := exq wr.drew
     have hSd : MSt wd_ X w1.heap.size FR sz (.slice av E.length cv) E := by rw [hwd]; exact hP.drew
     have hsd : wd_.heap.size = wr.heap.size := by rw [hwd]; rfl
     have hbd : Below X w4 wd_ := by rw [hwd]; exact below_dn hkb.out 1
     have hbrd : Below w.heap.size w wd_ := by rw [hwd]; exact below_dn hbr 1
     have d0 : wd_.cell? ⟨X, 0, none⟩ = some (.int .i64 FR) := by rw [hwd]; exact x0
     have d1 : wd_.cell? ⟨X, 1, none⟩ = some (.int .i64 sz) := by rw [hwd]; exact x1
     have d2 : wd_.cell? ⟨X, 2, none⟩ = some (.slice av N cv) := by rw [hwd, hN]; exact x2
     have du : wd_.cell? ⟨bu, ou + k, none⟩ = some u := by rw [hwd]; exact cur
     have hcall := fun W (hW : Below wd_.heap.size wd_ W) => specAddPetal W FR sz (.slice av E.length cv) u E z ((hSd.read.below hW).mono hW.size) (by omega) (by omega) (((ru.below hbrd).below (hW.mono (by have := hbrd.size; omega))).mono (by have := hbrd.size; have := hW.size; omega)) (by omega)
     simp only [← hPS, ← hPE, ← hPB, ← hN] at hcall
     rw [← hN] at hX9 hP hSd x2
     have hXd : X < wd_.heap.size := by omega
     replace hsd := hidI hsd
     replace hsz := hidI hsz
     replace hE := hidI hE
     replace hz := hidI hz
     replace hstep := hidI hstep
     replace hN := hidI hN
     replace hPS := hidI hPS
     replace hPE := hidI hPE
     replace hPB := hidI hPB
     replace hnx1 := hidI hnx1
     replace hnx2 := hidI hnx2
     replace hX9 := hidI hX9
     replace hP := hidI hP
     replace hbr := hidI hbr
     replace hk9 := hidI hk9
     replace ru := hidI ru
     replace hwd := hidI hwd
     clear hst cu
     go_wp2
     refine hideQ (fun _ _ d _ _ h => by cases d <;> exact h) (fun Q' hnorm hpan => ?_)
     refine wp_region_held_drew (S := (fun x => x.cell? ⟨X, 0, none⟩ = some (.int .i64 FR) ∧ x.cell? ⟨X, 1, none⟩ = some (.int .i64 sz) ∧ x.cell? ⟨X, 2, none⟩ = some (.slice av N cv) ∧ x.cell? ⟨bu, ou + k, none⟩ = some u)) (by kernel_rfl) ?_ (fun hHeld => ?_)
     · try dsimp only
       rw [← hwd.out]
       ((repeat' apply And.intro) <;> assumption)
     rw [← hwd.out] at hHeld ⊢
     clear x0 x1 x2 cur
     refine tk 0 28 ?_
     refine tk 1 29 ?_
     refine tk 2 30 ?_
     refine tk 3 31 ?_
     refine tk 4 32 ?_
     refine wpAnyH_ready (rs := [5, 9]) (by kernel_rfl) (by simp) ?_
     refine AllReadyH.cons rfl (fun K hK => ?_) ?_
     · rw [if_pos (by rfl)]
       go_simp
       go_at_call 133
       (with_reducible refine (hcall wd_ (Below.refl _ _)).mono ?_)
       rintro e w6 ⟨a6, c6, rfl, hrow6, hb6⟩
       have hs6 := hb6.size
       replace d0 := below_cell d0 hb6 (by omega)
       replace d1 := below_cell d1 hb6 (by omega)
       replace d2 := below_cell d2 hb6 (by omega)
       replace du := below_cell du hb6 (by have := hbrd.size; omega)
       refine hK.out _ _ ?_ (fun hHeld => ?_)
       · try dsimp only
         ((repeat' apply And.intro) <;> assumption)
       clear hK
       try simp only [Act.put, lyA, lyB, lyC]
       have hX6 : w6.heap[X]? = some (.cells #[.int .i64 FR, .int .i64 sz, .slice av N cv] 26 (0, 0)) := by rw [hb6.block X (by omega)]; exact hSd.1
       refine tk 6 27 ?_
       refine tk 7 34 ?_
       refine tk 8 35 ?_
       refine rd 9 (fun K hK => ?_)
       rw [if_pos (by rfl)]
       obtain ⟨wb, hw_wb⟩ := exq (w6.alloc (.cells #[.int .i64 0, .int .i64 0, .slice none 0 0] 26))
       have hb_wb : Below w6.heap.size w6 wb := by rw [hw_wb]; exact (Below.refl _ _).alloc (Nat.le_refl _) _
       have hs_wb : wb.heap.size = w6.heap.size + 1 := by rw [hw_wb]; simp
       have hn_wb := heap_alloc_new w6 (.cells #[.int .i64 0, .int .i64 0, .slice none 0 0] 26)
       rw [← hw_wb] at hn_wb
       go_simp
       rw [← hw_wb]
       replace hw_wb := hidI hw_wb
       replace d0 := below_cell d0 hb_wb (by omega)
       replace d1 := below_cell d1 hb_wb (by omega)
       replace d2 := below_cell d2 hb_wb (by omega)
       replace du := below_cell du hb_wb (by have := hbrd.size; omega)
       refine hK.out _ _ ?_ (fun hHeld => ?_)
       · try dsimp only
         ((repeat' apply And.intro) <;> assumption)
       clear hK
       try simp only [Act.put, lyA, lyB, lyC]
       have hBx := hn_wb
       have hXx : wb.heap[X]? = some (.cells #[.int .i64 FR, .int .i64 sz, .slice av N cv] 26 (0, 0)) := by rw [hb_wb.block X (by omega)]; exact hX6
       have hbx : Below X w4 wb := (hbd.trans (hb6.mono (by omega))).trans (hb_wb.mono (by omega))
       have hS6 : ∀ w8 : World, w8.heap.size = wb.heap.size → (∀ q, q ≠ w6.heap.size → w8.heap[q]? = wb.heap[q]?) → MSt (((w8.setCell ⟨X, 0, none⟩ (.int .i64 FR)).setCell ⟨X, 1, none⟩ (.int .i64 PS)).setCell ⟨X, 2, none⟩ (.slice a6 PE.length c6)) X w1.heap.size FR PS (.slice a6 PE.length c6) PE := fun w8 h8 ho => by
        have hx8 : w8.heap[X]? = some (.cells #[.int .i64 FR, .int .i64 sz, .slice av N cv] 26 (0, 0)) := by rw [ho X (by omega)]; exact hXx
        refine ⟨Go.Proofs.YtpjlamnjiilgbaaGreat.set3 hx8 _ _ _, wd_.heap.size, w6.heap.size, (hrow6.keep (fun q q1 q2 => ?_)), by omega, by rw [size_set3K]; omega, .inr (by omega)⟩
        have hq : q ≠ X := by omega
        rw [Below.heap_setCell _ _ _ _ hq, Below.heap_setCell _ _ _ _ hq, Below.heap_setCell _ _ _ _ hq, ho q (by omega), hb_wb.block q (by omega)]
       obtain ⟨M, hM⟩ := exq PE.length
       rw [← hM] at hrow6 hS6 ⊢
       replace hM := hidI hM
       obtain ⟨l0, l1, l2⟩ := cell3 hBx
       have fl := fun j => frozen_of_row wb w6.heap.size j _ _ hBx
       simp at l0 l1 l2
       obtain ⟨w8, hw8⟩ := exq ((((wb.setCell ⟨w6.heap.size, 0, none⟩ (.int .i64 FR)).setCell ⟨w6.heap.size, 1, none⟩ (.int .i64 PS)).setCell ⟨w6.heap.size, 2, none⟩ (.slice a6 M c6)))
       have hB8 : w8.heap[w6.heap.size]? = some (.cells #[.int .i64 FR, .int .i64 PS, .slice a6 M c6] 26 (0, 0)) := by rw [hw8]; exact Go.Proofs.YtpjlamnjiilgbaaGreat.set3 hBx _ _ _
       have ho8 : ∀ q, q ≠ w6.heap.size → w8.heap[q]? = wb.heap[q]? := fun q hq => by rw [hw8]; exact heap_set3 hq
       have hs8 : w8.heap.size = wb.heap.size := by rw [hw8]; exact size_set3K
       have hb8 : Below X w4 w8 := by rw [hw8]; exact below_set3 hbx (by omega)
       have hX8 : w8.heap[X]? = some (.cells #[.int .i64 FR, .int .i64 sz, .slice av N cv] 26 (0, 0)) := by rw [ho8 X (by omega)]; exact hXx
       replace d0 := by simpa using cell_of_heap hX8 0
       replace d1 := by simpa using cell_of_heap hX8 1
       replace d2 := by simpa using cell_of_heap hX8 2
       replace du := by simpa using (World.cell?_of_block (w := wb) (a := ⟨bu, ou + k, none⟩) (ho8 bu (by have := hbrd.size; omega))).trans du
       have hS8 := hS6 w8 hs8 ho8
       replace hBx := hidI hBx
       replace hrow6 := hidI hrow6
       replace hS6 := hidI hS6
       replace hXx := hidI hXx
       refine rd 10 (fun K hK => ?_)
       rw [if_pos (by rfl)]
       go_simp
       rw [← hw8]
       replace hw8 := hidI hw8
       refine hK.out _ _ ?_ (fun hHeld => ?_)
       · try dsimp only
         ((repeat' apply And.intro) <;> assumption)
       clear hK
       try simp only [Act.put, lyA, lyB, lyC]
       refine tk 11 10 ?_
       refine wpAnyH_done (by kernel_rfl) ?_ _
       refine hnorm _ _ ?_
       clear hnorm hpan
       repeat clear hHeld
       try simp only [Exit.then]
       clear l0 l1 l2 fl
       obtain ⟨z0, z1, z2⟩ := cell3 hB8
       have fz := fun j => frozen_of_row w8 X j _ _ hX8
       simp at z0 z1 z2
       have hst7 : Hid (∃ v', MSt (((w8.setCell ⟨X, 0, none⟩ (.int .i64 FR)).setCell ⟨X, 1, none⟩ (.int .i64 PS)).setCell ⟨X, 2, none⟩ (.slice a6 M c6)) X w1.heap.size FR (floL FR (zss.take (k + 1))).1 v' (floL FR (zss.take (k + 1))).2) := hidI ⟨_, by rw [hnx1.out, hnx2.out]; exact hS8⟩
       have hb7 : Hid (Below X w4 (((w8.setCell ⟨X, 0, none⟩ (.int .i64 FR)).setCell ⟨X, 1, none⟩ (.int .i64 PS)).setCell ⟨X, 2, none⟩ (.slice a6 M c6))) := hidI (below_set3 hb8 (Nat.le_refl _))
       replace hX8 := hidI hX8
       replace hB8 := hidI hB8
       clear hS8 hb8 ho8
       go_wp2
       go_roundg (n - (k + 1))
       case rel => exact ⟨k + 1, by have := hk9.out; omega, by go_num, hst7, hb7⟩
       case measure => have := hk9.out; omega
     refine AllReadyH.cons rfl (fun K hK => ?_) AllReadyH.nil
     rw [if_pos (by rfl)]
     obtain ⟨wb, hw_wb⟩ := exq (wd_.alloc (.cells #[.int .i64 0, .int .i64 0, .slice none 0 0] 26))
     have hb_wb : Below wd_.heap.size wd_ wb := by rw [hw_wb]; exact (Below.refl _ _).alloc (Nat.le_refl _) _
     have hs_wb : wb.heap.size = wd_.heap.size + 1 := by rw [hw_wb]; simp
     have hn_wb := heap_alloc_new wd_ (.cells #[.int .i64 0, .int .i64 0, .slice none 0 0] 26)
     rw [← hw_wb] at hn_wb
     go_simp
     rw [← hw_wb]
     replace hw_wb := hidI hw_wb
     replace d0 := below_cell d0 hb_wb (by omega)
     replace d1 := below_cell d1 hb_wb (by omega)
     replace d2 := below_cell d2 hb_wb (by omega)
     replace du := below_cell du hb_wb (by have := hbrd.size; omega)
     refine hK.out _ _ ?_ (fun hHeld => ?_)
     · try dsimp only
       ((repeat' apply And.intro) <;> assumption)
     clear hK
     try simp only [Act.put, lyA, lyB, lyC]
     refine rd 5 (fun K hK => ?_)
     rw [if_pos (by rfl)]
     go_simp
     go_at_call 133
     (with_reducible refine (hcall wb hb_wb).mono ?_)
     rintro e w6 ⟨a6, c6, rfl, hrow6, hb6⟩
     have hs6 := hb6.size
     replace d0 := below_cell d0 hb6 (by omega)
     replace d1 := below_cell d1 hb6 (by omega)
     replace d2 := below_cell d2 hb6 (by omega)
     replace du := below_cell du hb6 (by have := hbrd.size; omega)
     refine hK.out _ _ ?_ (fun hHeld => ?_)
     · try dsimp only
       ((repeat' apply And.intro) <;> assumption)
     clear hK
     try simp only [Act.put, lyA, lyB, lyC]
     refine tk 6 27 ?_
     refine tk 7 34 ?_
     refine tk 8 35 ?_
     have hBx : w6.heap[wd_.heap.size]? = some (.cells #[.int .i64 0, .int .i64 0, .slice none 0 0] 26 (0, 0)) := by rw [hb6.block _ (by omega)]; exact hn_wb
     have hXx : w6.heap[X]? = some (.cells #[.int .i64 FR, .int .i64 sz, .slice av N cv] 26 (0, 0)) := by rw [hb6.block X (by omega), hb_wb.block X (by omega)]; exact hSd.1
     have hbx : Below X w4 w6 := (hbd.trans (hb_wb.mono (by omega))).trans (hb6.mono (by omega))
     have hS6 : ∀ w8 : World, w8.heap.size = w6.heap.size → (∀ q, q ≠ wd_.heap.size → w8.heap[q]? = w6.heap[q]?) → MSt (((w8.setCell ⟨X, 0, none⟩ (.int .i64 FR)).setCell ⟨X, 1, none⟩ (.int .i64 PS)).setCell ⟨X, 2, none⟩ (.slice a6 PE.length c6)) X w1.heap.size FR PS (.slice a6 PE.length c6) PE := fun w8 h8 ho => by
      have hx8 : w8.heap[X]? = some (.cells #[.int .i64 FR, .int .i64 sz, .slice av N cv] 26 (0, 0)) := by rw [ho X (by omega)]; exact hXx
      refine ⟨Go.Proofs.YtpjlamnjiilgbaaGreat.set3 hx8 _ _ _, wb.heap.size, w6.heap.size, (hrow6.keep (fun q q1 q2 => ?_)), by omega, by rw [size_set3K]; omega, .inr (by omega)⟩
      have hq : q ≠ X := by omega
      rw [Below.heap_setCell _ _ _ _ hq, Below.heap_setCell _ _ _ _ hq, Below.heap_setCell _ _ _ _ hq, ho q (by omega)]
     obtain ⟨M, hM⟩ := exq PE.length
     rw [← hM] at hrow6 hS6 ⊢
     replace hM := hidI hM
     obtain ⟨l0, l1, l2⟩ := cell3 hBx
     have fl := fun j => frozen_of_row w6 wd_.heap.size j _ _ hBx
     simp at l0 l1 l2
     obtain ⟨w8, hw8⟩ := exq ((((w6.setCell ⟨wd_.heap.size, 0, none⟩ (.int .i64 FR)).setCell ⟨wd_.heap.size, 1, none⟩ (.int .i64 PS)).setCell ⟨wd_.heap.size, 2, none⟩ (.slice a6 M c6)))
     have hB8 : w8.heap[wd_.heap.size]? = some (.cells #[.int .i64 FR, .int .i64 PS, .slice a6 M c6] 26 (0, 0)) := by rw [hw8]; exact Go.Proofs.YtpjlamnjiilgbaaGreat.set3 hBx _ _ _
     have ho8 : ∀ q, q ≠ wd_.heap.size → w8.heap[q]? = w6.heap[q]? := fun q hq => by rw [hw8]; exact heap_set3 hq
     have hs8 : w8.heap.size = w6.heap.size := by rw [hw8]; exact size_set3K
     have hb8 : Below X w4 w8 := by rw [hw8]; exact below_set3 hbx (by omega)
     have hX8 : w8.heap[X]? = some (.cells #[.int .i64 FR, .int .i64 sz, .slice av N cv] 26 (0, 0)) := by rw [ho8 X (by omega)]; exact hXx
     replace d0 := by simpa using cell_of_heap hX8 0
     replace d1 := by simpa using cell_of_heap hX8 1
     replace d2 := by simpa using cell_of_heap hX8 2
     replace du := by simpa using (World.cell?_of_block (w := w6) (a := ⟨bu, ou + k, none⟩) (ho8 bu (by have := hbrd.size; omega))).trans du
     have hS8 := hS6 w8 hs8 ho8
     replace hBx := hidI hBx
     replace hrow6 := hidI hrow6
     replace hS6 := hidI hS6
     replace hXx := hidI hXx
     refine rd 10 (fun K hK => ?_)
     rw [if_pos (by rfl)]
     go_simp
     rw [← hw8]
     replace hw8 := hidI hw8
     refine hK.out _ _ ?_ (fun hHeld => ?_)
     · try dsimp only
       ((repeat' apply And.intro) <;> assumption)
     clear hK
     try simp only [Act.put, lyA, lyB, lyC]
     refine tk 11 10 ?_
     refine wpAnyH_done (by kernel_rfl) ?_ _
     refine hnorm _ _ ?_
     clear hnorm hpan
     repeat clear hHeld
     try simp only [Exit.then]
     clear l0 l1 l2 fl
     obtain ⟨z0, z1, z2⟩ := cell3 hB8
     have fz := fun j => frozen_of_row w8 X j _ _ hX8
     simp at z0 z1 z2
     have hst7 : Hid (∃ v', MSt (((w8.setCell ⟨X, 0, none⟩ (.int .i64 FR)).setCell ⟨X, 1, none⟩ (.int .i64 PS)).setCell ⟨X, 2, none⟩ (.slice a6 M c6)) X w1.heap.size FR (floL FR (zss.take (k + 1))).1 v' (floL FR (zss.take (k + 1))).2) := hidI ⟨_, by rw [hnx1.out, hnx2.out]; exact hS8⟩
     have hb7 : Hid (Below X w4 (((w8.setCell ⟨X, 0, none⟩ (.int .i64 FR)).setCell ⟨X, 1, none⟩ (.int .i64 PS)).setCell ⟨X, 2, none⟩ (.slice a6 M c6))) := hidI (below_set3 hb8 (Nat.le_refl _))
     replace hX8 := hidI hX8
     replace hB8 := hidI hB8
     clear hS8 hb8 ho8
     go_wp2
     go_roundg (n - (k + 1))
     case rel => exact ⟨k + 1, by have := hk9.out; omega, by go_num, hst7, hb7⟩
     case measure => have := hk9.out; omega
   · obtain rfl : k = n := by omega
     have hki : ¬ (k : Int) < (k : Int) := by omega
     have hEP : FE = E := by rw [e3.out, hE]
     have hZP : FZ = sz := by rw [e2.out, hsz]
     subst hEP
     subst hZP
     have hR0 : wr.heap[w.heap.size]? = some (.cells #[.int .i64 0, .int .i64 0, .slice none 0 0] 26 (0, 0)) := by rw [hkb.out.block _ (by have := hs1.out; omega)]; exact hR4.out
     have hfin := mst_fin (w := w) (w9 := wr) (X := X) (R := w.heap.size) (base := w1.heap.size) (cap := cv) (r := FR) (s' := FZ) (E := FE) (b := true) (a := av) (Nat.le_refl _) (by have := hs1.out; omega) hbr hP
     obtain ⟨y0, y1, y2⟩ := cell3 hR0
     have f2 := fun j => frozen_of_row wr w.heap.size j _ _ hR0
     simp at y0 y1 y2
     replace hfin := hidI hfin
     replace hR0 := hidI hR0
     replace hX9 := hidI hX9
     replace hP := hidI hP
     replace hk9 := hidI hk9
     replace hbr := hidI hbr
     replace hE := hidI hE
     replace hsz := hidI hsz
     clear hst
     go_wp2
     (try simp only [Exit.inBlock, Exit.then])
     refine ret_cell2 (x := .bool true) rfl rfl rfl (Go.Proofs.YtpjlamnjiilgbaaGreat.set3 hR0.out _ _ _) Tryz.underlying26 sizeGraph ?_
     exact hfin.out
end Go.Proofs.YtpjlamnjiilgbaaGreat
