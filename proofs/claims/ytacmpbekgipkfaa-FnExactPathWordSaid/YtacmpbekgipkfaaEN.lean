/- Shortest words, the model: PathWord (a word that may grow), TreeWord, LoopOf (tools/en.py). -/
import Derived.Test.YtacmpbekgipkfaaFS8
import Derived.Test.YtacmpbekgipkfaaEB
import Derived.Test.YtacmpbekgipkfaaWS2
import Derived.Test.YtacmpbekgipkfaaPAT
import Derived.Test.YtacmpbekgipkfaaRL
import Derived.Test.YtacmpbekgipkfaaED
import Derived.Deep.Cut
namespace Go.Proofs.Ytacmpbekgipkfaa
open Go.RowKit
set_option linter.unusedVariables false
set_option linter.unusedSimpArgs false

set_option maxRecDepth 100000 in
set_option maxHeartbeats 6400000 in
theorem specPathO (w : World) (r s : Int) (v : Value) (es : List Ed) (x y : Int) (h : ReadE w.heap.size w v es) (hs : -9223372036854775808 ≤ s ∧ s ≤ 9223372036854775807) (hl : es.length ≤ 10000000) :
    Calls Try.prog 33 #[.agg #[.int .i64 r, .int .i64 s, v], .int .i64 x, .int .i64 y] w (LwIntsBoolO w (pathA r s es x y) (pathT r s es x y)) := by
  obtain ⟨a, cap, rfl, hnc⟩ := h.form
  obtain ⟨n, hn⟩ : ∃ n, n = es.length := ⟨_, rfl⟩
  rw [← hn] at hl hnc ⊢
  rw [← hn] at h
  obtain ⟨w1, hw1⟩ : ∃ w1, w1 = w.alloc (.cells #[.int .i64 r, .int .i64 s, .slice a n cap] 29) := ⟨_, rfl⟩
  have hb1 : Below w.heap.size w w1 := by rw [hw1]; exact (Below.refl _ _).alloc (Nat.le_refl _) _
  have hs1 : w.heap.size < w1.heap.size := by rw [hw1]; simp
  obtain ⟨g0, g1, g2⟩ := box3 hw1
  have hcf := specFold w1 r s (.slice a n cap) es ((h.below hb1).mono hb1.size) hs (by omega)
  obtain ⟨B, hB⟩ : ∃ B, B = isFo r s es := ⟨_, rfl⟩
  rw [← hB] at hcf
  obtain ⟨FA, hFA⟩ : ∃ F, F = pathA r s es x y := ⟨_, rfl⟩
  obtain ⟨FT, hFT⟩ : ∃ F, F = pathT r s es x y := ⟨_, rfl⟩
  rw [← hFA, ← hFT]
  have hno : FT = false → ∀ W : World, Below w.heap.size w W → LwIntsBoolO w FA FT (.returned (.tuple #[.slice (some ⟨W.heap.size, 0, none⟩) 0 0, .bool false])) (W.alloc (.cells #[] 3)) := fun h W hW => by
    have h2 : FA = [] := by rw [hFA]; unfold pathA; rw [← hFT, h]; rfl
    rw [h, h2]
    have hbn := (Below.refl W.heap.size W).alloc (Nat.le_refl _) (.cells #[] 3)
    exact ⟨_, rfl, (OwnsI.lit W).mono hW.size, hW.trans (hbn.mono hW.size)⟩
  have hF0 : okPath r s es x y = false → FT = false := fun h => by rw [hFT]; unfold pathT; rw [h]; rfl
  have hF1 : y ∉ vts (foundA r es x) → FT = false := fun h => by rw [hFT]; unfold pathT; rw [decide_eq_false h, Bool.and_false]
  have hF2 : okPath r s es x y = true → y ∈ vts (foundA r es x) → FT = true ∧ FA = ((foundA r es x).getD (placeA (foundA r es x) y) d0).2 := fun h1 h3 => by
    have hT : pathT r s es x y = true := by unfold pathT; rw [h1, decide_eq_true h3]; rfl
    exact ⟨by rw [hFT]; exact hT, by rw [hFA]; unfold pathA; rw [hT]; rfl⟩
  replace hno := hidI hno
  replace hF0 := hidI hF0
  replace hF1 := hidI hF1
  replace hF2 := hidI hF2
  replace hFA := hidI hFA
  replace hFT := hidI hFT
  replace hn := hidI hn
  replace hw1 := hidI hw1
  replace h := hidI h
  go_enter Try.func33, Try.ntmps33
  go_wp2_with fail
  rw [← hw1.out]
  refine hcf.mono ?_
  rintro e w2 ⟨rfl, hb2⟩
  clear hcf
  replace g0 := below_cell g0 hb2 hs1
  replace g1 := below_cell g1 hb2 hs1
  replace g2 := below_cell g2 hb2 hs1
  have hb12 := hidI (hb1.trans (hb2.mono hb1.size))
  have hs2 : w.heap.size < w2.heap.size := Nat.lt_of_lt_of_le hs1 hb2.size
  clear hb2
  cases B with
  | false =>
    have hfin := hidI (hno.out (hF0.out (by unfold okPath; rw [← hB]; rfl)) w2 hb12.out)
    replace hB := hidI hB
    go_wp2
    go_ret2
    exact hfin.out
  | true =>
  have hg := hB.symm
  unfold isFo at hg
  rw [Bool.and_eq_true] at hg
  have hlim := isGr_lim hg.1
  obtain ⟨rN, rfl⟩ : ∃ k : Nat, r = (k : Int) := ⟨r.toNat, by omega⟩
  obtain ⟨sN, rfl⟩ : ∃ k : Nat, s = (k : Int) := ⟨s.toNat, by omega⟩
  have hsub : IntKind.i64.wrap ((sN : Int) - 1) = (sN : Int) - 1 := IntWalk.i64_in _ (by omega)
  have hcx := fun W => in_any W x 0 ((sN : Int) - 1)
  have hcy := fun W => in_any W y 0 ((sN : Int) - 1)
  by_cases hx : 0 ≤ x ∧ x ≤ (sN : Int) - 1
  case neg =>
    have hd : decide (0 ≤ x ∧ x ≤ (sN : Int) - 1) = false := decide_eq_false hx
    have hfin := hidI (hno.out (hF0.out (by unfold okPath isVx; rw [← hB, show decide (0 ≤ x ∧ x < (sN : Int)) = false from decide_eq_false (by omega)]; rfl)) w2 hb12.out)
    clear hcy
    replace hB := hidI hB
    replace hg := hidI hg
    replace hlim := hidI hlim
    replace hx := hidI hx
    go_wp2_with (go_at_call 53; refine (hcx _).mono ?_; rintro e w3 ⟨rfl, rfl⟩)
    go_ret2
    exact hfin.out
  have hdx : decide (0 ≤ x ∧ x ≤ (sN : Int) - 1) = true := decide_eq_true hx
  simp only [hdx] at hcx
  by_cases hy : 0 ≤ y ∧ y ≤ (sN : Int) - 1
  case neg =>
    have hd : decide (0 ≤ y ∧ y ≤ (sN : Int) - 1) = false := decide_eq_false hy
    simp only [hd] at hcy
    have hfin := hidI (hno.out (hF0.out (by unfold okPath isVx; rw [show decide (0 ≤ y ∧ y < (sN : Int)) = false from decide_eq_false (by omega), Bool.and_false])) w2 hb12.out)
    replace hB := hidI hB
    replace hg := hidI hg
    replace hlim := hidI hlim
    replace hx := hidI hx
    replace hy := hidI hy
    go_wp2_with (go_at_call 53; first | ((with_reducible refine (hcx _).mono ?_); rintro e w3 ⟨rfl, rfl⟩) | ((with_reducible refine (hcy _).mono ?_); rintro e w4 ⟨rfl, rfl⟩))
    go_ret2
    exact hfin.out
  have hdy : decide (0 ≤ y ∧ y ≤ (sN : Int) - 1) = true := decide_eq_true hy
  simp only [hdy] at hcy
  have hok : okPath (rN : Int) (sN : Int) es x y = true := by
    unfold okPath isVx
    rw [← hB, show decide (0 ≤ x ∧ x < (sN : Int)) = true from decide_eq_true (by omega), show decide (0 ≤ y ∧ y < (sN : Int)) = true from decide_eq_true (by omega)]; rfl
  obtain ⟨xN, rfl⟩ : ∃ k : Nat, x = (k : Int) := ⟨x.toNat, by omega⟩
  obtain ⟨yN, rfl⟩ : ∃ k : Nat, y = (k : Int) := ⟨y.toNat, by omega⟩
  have hxi : (xN : Int) < (sN : Int) := by omega
  have hyi : (yN : Int) < (sN : Int) := by omega
  have hyN : yN < sN := by omega
  have hcs := specSearch w2 rN sN xN (.slice a n cap) es ((h.out.below hb12.out).mono hb12.out.size) (by have := hn.out; omega) hB.symm (by omega)
  obtain ⟨S, hS⟩ : ∃ S, S = foundA (rN : Int) es (xN : Int) := ⟨_, rfl⟩
  rw [← hS] at hcs hF1
  have hF3 := hF2.out hok
  rw [← hS] at hF3
  have hgood := foundA_good (r := (rN : Int)) hB.symm (u := (xN : Int)) (by omega)
  rw [← hS] at hgood
  replace hS := hidI hS
  replace hF3 := hidI hF3
  replace hgood := hidI hgood
  replace hok := hidI hok
  replace hB := hidI hB
  replace hg := hidI hg
  replace hlim := hidI hlim
  replace hx := hidI hx
  replace hy := hidI hy
  go_upto_region 3 with (go_at_call 53; first | ((with_reducible refine (hcx _).mono ?_); rintro e w3 ⟨rfl, rfl⟩) | ((with_reducible refine (hcy _).mono ?_); rintro e w4 ⟨rfl, rfl⟩))
  clear hcx hcy hdx hdy
  go_wp2_with fail
  refine hcs.mono ?_
  rintro e w5 ⟨base, G, H, c, rfl, hst, hb5⟩
  clear hcs g0 g1 g2
  have hb15 := hidI (hb12.out.trans (hb5.mono hb12.out.size))
  have cY := hst.seen.cell yN hyN
  clear hb5
  by_cases hin : (yN : Int) ∈ vts S
  case neg =>
    have d1 : decide ((yN : Int) ∈ vts S) = false := decide_eq_false hin
    rw [d1] at cY
    have hfin := hidI (hno.out (hF1.out hin) w5 hb15.out)
    replace hin := hidI hin
    replace hst := hidI hst
    go_wp2
    go_ret2
    exact hfin.out
  have d1 : decide ((yN : Int) ∈ vts S) = true := decide_eq_true hin
  rw [d1] at cY
  obtain ⟨hT, hA⟩ := hF3.out hin
  have hpl := placeA_lt hin
  obtain ⟨vw, cw0, hrw⟩ := hst.words.cell _ hpl.1
  rw [hpl.2, Int.toNat_natCast] at cw0
  have hwl := hgood.out.wlen _ hpl.1
  have hSl := hgood.out.length
  rw [← hA] at hrw hwl
  obtain ⟨_, aw, cw, rfl, _, _⟩ := id hrw
  obtain ⟨lw, hlw⟩ : ∃ z, z = FA.length := ⟨_, rfl⟩
  rw [← hlw] at cw0 hrw
  have hFl : FA.length ≤ 1000 := by have := hlim.out; omega
  have hHlt := hst.Hlt
  have cw1 := below_cell cw0 ((Below.refl w5.heap.size w5).alloc (Nat.le_refl _) (.cells #[] 3)) hHlt
  have hrw1 : ReadI w5.heap.size (w5.alloc (.cells #[] 3)) (.slice aw lw cw) FA := by
    have := hrw
    exact this.below ((Below.refl w5.heap.size w5).alloc (Nat.le_refl _) (.cells #[] 3))
  replace hT := hidI hT
  replace hA := hidI hA
  replace hin := hidI hin
  replace hst := hidI hst
  replace hpl := hidI hpl
  replace hlw := hidI hlw
  replace hwl := hidI hwl
  replace hrw := hidI hrw
  replace hrw1 := hidI hrw1
  go_wp2_with (at_builtin; go_must (refine wpList_pushAllI rfl _ _ rfl w5.heap.size _ _ [] FA w5.heap.size rfl rfl (OwnsI.lit w5) hrw1.out (by simp; omega) (by simp) ?_))
  intro v' w6 hown6 hb6
  have hr : LwIntsBoolO w FA FT (.returned (.tuple #[v', .bool true])) w6 := by
    rw [hT.out]
    have hb9 := ((Below.refl w5.heap.size w5).alloc (Nat.le_refl _) (.cells #[] 3)).trans hb6
    exact ⟨_, rfl, (show OwnsI w6 w5.heap.size v' FA by simpa using hown6).mono hb15.out.size, hb15.out.trans (hb9.mono hb15.out.size)⟩
  replace hr := hidI hr
  clear hown6 hb6
  go_wp2
  go_ret2
  exact hr.out
theorem specPath (w : World) (r s : Int) (v : Value) (es : List Ed) (x y : Int) (h : ReadE w.heap.size w v es) (hs : -9223372036854775808 ≤ s ∧ s ≤ 9223372036854775807) (hl : es.length ≤ 10000000) :
    Calls Try.prog 33 #[.agg #[.int .i64 r, .int .i64 s, v], .int .i64 x, .int .i64 y] w (LwIntsBool w (pathA r s es x y) (pathT r s es x y)) := by
  refine (specPathO w r s v es x y h hs hl).mono ?_
  rintro e w' ⟨v', rfl, h1, h2⟩
  have := pathA_length r s es x y
  exact ⟨v', rfl, h1.row (by omega), h2⟩
theorem specTreeWordO (w : World) (r s : Int) (v : Value) (es : List Ed) (y : Int) (h : ReadE w.heap.size w v es) (hs : -9223372036854775808 ≤ s ∧ s ≤ 9223372036854775807) (hl : es.length ≤ 10000000) :
    Calls Try.prog 21 #[.agg #[.int .i64 r, .int .i64 s, v], .int .i64 y] w (IntsRetO w (pathA r s es 0 y)) := by
  obtain ⟨a, cap, rfl, hnc⟩ := h.form
  obtain ⟨n, hn⟩ : ∃ n, n = es.length := ⟨_, rfl⟩
  rw [← hn] at hl hnc ⊢
  rw [← hn] at h
  obtain ⟨w1, hw1⟩ : ∃ w1, w1 = w.alloc (.cells #[.int .i64 r, .int .i64 s, .slice a n cap] 29) := ⟨_, rfl⟩
  have hb1 : Below w.heap.size w w1 := by rw [hw1]; exact (Below.refl _ _).alloc (Nat.le_refl _) _
  obtain ⟨g0, g1, g2⟩ := box3 hw1
  have hcw := specPathO w1 r s (.slice a n cap) es 0 y ((h.below hb1).mono hb1.size) hs (by omega)
  obtain ⟨F, hF⟩ : ∃ F, F = pathA r s es 0 y := ⟨_, rfl⟩
  obtain ⟨T, hT⟩ : ∃ F, F = pathT r s es 0 y := ⟨_, rfl⟩
  rw [← hF, ← hT] at hcw
  rw [← hF]
  replace hF := hidI hF
  replace hT := hidI hT
  replace h := hidI h
  replace hn := hidI hn
  have hw1' := hidI hw1.symm
  replace hw1 := hidI hw1
  go_enter Try.func21, Try.ntmps21
  go_upto_region 1 with fail
  rw [hw1'.out]
  go_wp2_with fail
  refine hcw.mono ?_
  rintro e w5 ⟨v5, rfl, hrow5, hb5⟩
  have hr : IntsRetO w F (.returned v5) w5 := ⟨_, rfl, hrow5.mono hb1.size, hb1.trans (hb5.mono hb1.size)⟩
  replace hr := hidI hr
  clear hcw hrow5 hb5 g0 g1 g2
  go_wp2
  go_ret
  exact hr.out
theorem specTreeWord (w : World) (r s : Int) (v : Value) (es : List Ed) (y : Int) (h : ReadE w.heap.size w v es) (hs : -9223372036854775808 ≤ s ∧ s ≤ 9223372036854775807) (hl : es.length ≤ 10000000) :
    Calls Try.prog 21 #[.agg #[.int .i64 r, .int .i64 s, v], .int .i64 y] w (IntsRet w (pathA r s es 0 y)) :=
  (specTreeWordO w r s v es y h hs hl).mono fun e w' q => q.ret (by have := pathA_length r s es 0 y; omega)
end Go.Proofs.Ytacmpbekgipkfaa
