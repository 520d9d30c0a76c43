import Derived.Maps.AppendAt
import Derived.BigQuiet
import Derived.Deep.Cut
import Derived.Test.YtgnomlcjikfdhaaGreatJ5Tr
import Derived.Test.YtgnomlcjikfdhaaGreatJ2Tr
import Derived.Test.YtgnomlcjikfdhaaGreatJ1Tr
import Derived.Test.YtgnomlcjikfdhaaGreatJ38Tr
import Derived.Test.YtgnomlcjikfdhaaGreatJ27Tr
import Derived.Test.YtgnomlcjikfdhaaGreatJ36Tr
import Derived.Test.YtgnomlcjikfdhaaGreatJ19Tr
import Derived.Test.YtgnomlcjikfdhaaGreatJ33Tr
namespace Go.Proofs.YtgnomlcjikfdhaaGreat
open Go.RowKit
set_option linter.unusedVariables false
set_option maxHeartbeats 800000 in
theorem specMul (w : World) (v1 v2 : Value) (z1 z2 : List Int) (h1 : ReadI w.heap.size w v1 z1) (h2 : ReadI w.heap.size w v2 z2) (hl1 : z1.length ≤ 40000000) (hl2 : z2.length ≤ 40000000) :
 Calls Tryz.prog 29 #[v1, v2] w (IntsRet w (mulL z1 z2)) := by
 have hr1 := hidI h1
 have hr2 := hidI h2
 clear h1 h2
 have hb0 : Below w.heap.size w (w.alloc (.cells #[] 3)) := (Below.refl _ _).alloc (Nat.le_refl _) _
 have hlit := hidI (OwnsI.lit w)
 have hs0 : ([] : List Int).length + z1.length ≤ 1000000000 := by simp; omega
 go_enter Tryz.func29, Tryz.ntmps29
 go_wp2_with (at_builtin; go_must (refine wpList_pushAllI rfl (.tmp 5) (.tmp 6) rfl w.heap.size _ _ [] z1 w.heap.size rfl rfl (by exact hlit.out) (by exact hr1.out.below hb0) hs0 hb0.size ?_))
 intro v3 w3 hown3 hb3'
 have hb3 := hb0.trans hb3'
 have hown3' : OwnsI w3 w.heap.size v3 z1 := hown3
 have hs3 : z1.length + z2.length ≤ 1000000000 := by omega
 replace hown3' := hidI hown3'
 clear hown3 hb3' hlit
 go_wp2_with (at_builtin; go_must (refine wpList_pushAllI rfl _ _ rfl w.heap.size _ _ z1 z2 w.heap.size rfl rfl (by exact hown3'.out) (by exact hr2.out.below hb3) hs3 hb3.size ?_))
 intro v4 w4 hown4 hb4'
 have hb4 := hb3.trans hb4'
 have hz : (z1 ++ z2).length ≤ 100000000 := by rw [List.length_append]; omega
 have hrd : ReadI w4.heap.size w4 v4 (z1 ++ z2) := (hown4.row (by omega)).read
 have hs4 := hb4.size
 clear hown4 hb4' hown3' hb3 hb0
 go_wp2_with fail
 refine (specRed w4 v4 (z1 ++ z2) hrd hz).mono ?_
 rintro e w5 ⟨v5, rfl, hrow, hb5'⟩
 have hb5 := hb4.trans (hb5'.mono hs4)
 have hrow2 := hidI (hrow.wide hs4 (Nat.le_refl _))
 clear hrow hb5' hrd
 go_wp2_with fail
 go_ret
 exact ⟨v5, rfl, hrow2.out, hb5⟩
theorem RowI.later {w w' : World} {lo hi : Nat} {v : Value} {zs : List Int} (h : RowI w lo hi v zs) (hb : Below hi w w') (hs : hi ≤ w'.heap.size) : ReadI w'.heap.size w' v zs :=
 ((h.read).below hb).mono hs
theorem OwnsI.later {w w' : World} {base B : Nat} {v : Value} {zs : List Int} (h : OwnsI w base v zs) (hb : Below B w w') (hB : w.heap.size ≤ B) : OwnsI w' base v zs := by
 obtain ⟨hl, h1 | ⟨g, cap, cur, hv, hg, hh, hr⟩⟩ := h
 · exact ⟨hl, .inl h1⟩
 · have hlt : g < w.heap.size := (Array.getElem?_eq_some_iff.1 hh).1
   exact ⟨hl, .inr ⟨g, cap, cur, hv, hg, by rw [hb.block g (by omega)]; exact hh, hr⟩⟩
def okAt (rank : Int) (zs : List Int) (i : Nat) : Prop :=
 zs.getD i 0 ≠ 0 ∧ ng rank ≤ zs.getD i 0 ∧ zs.getD i 0 ≤ rank ∧ (0 < i → zs.getD i 0 ≠ ng (zs.getD (i - 1) 0))
instance (rank : Int) (zs : List Int) (i : Nat) : Decidable (okAt rank zs i) := by unfold okAt; infer_instance
end Go.Proofs.YtgnomlcjikfdhaaGreat
namespace Go.Proofs.YtgnomlcjikfdhaaGreat
open Go.RowKit
set_option linter.unusedVariables false
set_option linter.unusedSimpArgs false
set_option maxRecDepth 100000 in
set_option maxHeartbeats 6400000 in
theorem specPathO (w : World) (r s : Int) (v : Value) (es : List Ed) (x y : Int) (h : ReadE w.heap.size w v es) (hs : -9223372036854775808 ≤ s ∧ s ≤ 9223372036854775807) (hl : es.length ≤ 10000000) :
 Calls Tryz.prog 62 #[.agg #[.int .i64 r, .int .i64 s, v], .int .i64 x, .int .i64 y] w (LwIntsBoolO w (pathA r s es x y) (pathT r s es x y)) := by
 obtain ⟨a, cap, rfl, hnc⟩ := h.form
 obtain ⟨n, hn⟩ := exq es.length
 rw [← hn] at hl hnc ⊢
 rw [← hn] at h
 obtain ⟨w1, hw1⟩ := exq (w.alloc (.cells #[.int .i64 r, .int .i64 s, .slice a n cap] 26))
 have hb1 : Below w.heap.size w w1 := by rw [hw1]; exact (Below.refl _ _).alloc (Nat.le_refl _) _
 have hs1 : w.heap.size < w1.heap.size := by rw [hw1]; simp
 obtain ⟨g0, g1, g2⟩ := box3 hw1
 have hcf := specFold w1 r s (.slice a n cap) es ((h.below hb1).mono hb1.size) hs (by omega)
 obtain ⟨B, hB⟩ := exq (isFo r s es)
 rw [← hB] at hcf
 obtain ⟨FA, hFA⟩ := exq (pathA r s es x y)
 obtain ⟨FT, hFT⟩ := exq (pathT r s es x y)
 rw [← hFA, ← hFT]
 have hno : FT = false → ∀ W : World, Below w.heap.size w W → LwIntsBoolO w FA FT (.returned (.tuple #[.slice (some ⟨W.heap.size, 0, none⟩) 0 0, .bool false])) (W.alloc (.cells #[] 3)) := fun h W hW => by
  have h2 : FA = [] := by rw [hFA]; unfold pathA; rw [← hFT, h]; rfl
  rw [h, h2]
  have hbn := (Below.refl W.heap.size W).alloc (Nat.le_refl _) (.cells #[] 3)
  exact ⟨_, rfl, (OwnsI.lit W).mono hW.size, hW.trans (hbn.mono hW.size)⟩
 have hF0 : okPath r s es x y = false → FT = false := fun h => by rw [hFT]; unfold pathT; rw [h]; rfl
 have hF1 : y ∉ vts (foundA r es x) → FT = false := fun h => by rw [hFT]; unfold pathT; rw [decide_eq_false h, Bool.and_false]
 have hF2 : okPath r s es x y = true → y ∈ vts (foundA r es x) → FT = true ∧ FA = ((foundA r es x).getD (placeA (foundA r es x) y) d0).2 := fun h1 h3 => by
  have hT : pathT r s es x y = true := by unfold pathT; rw [h1, decide_eq_true h3]; rfl
  exact ⟨by rw [hFT]; exact hT, by rw [hFA]; unfold pathA; rw [hT]; rfl⟩
 replace hno := hidI hno
 replace hF0 := hidI hF0
 replace hF1 := hidI hF1
 replace hF2 := hidI hF2
 replace hFA := hidI hFA
 replace hFT := hidI hFT
 replace hn := hidI hn
 replace hw1 := hidI hw1
 replace h := hidI h
 go_enter Tryz.func62, Tryz.ntmps62
 go_wp2_with fail
 rw [← hw1.out]
 refine hcf.mono ?_
 rintro e w2 ⟨rfl, hb2⟩
 clear hcf
 replace g0 := below_cell g0 hb2 hs1
 replace g1 := below_cell g1 hb2 hs1
 replace g2 := below_cell g2 hb2 hs1
 have hb12 := hidI (hb1.trans (hb2.mono hb1.size))
 have hs2 : w.heap.size < w2.heap.size := Nat.lt_of_lt_of_le hs1 hb2.size
 clear hb2
 cases B with
 | false =>
  have hfin := hidI (hno.out (hF0.out (by unfold okPath; rw [← hB]; rfl)) w2 hb12.out)
  replace hB := hidI hB
  go_wp2
  go_ret2
  exact hfin.out
 | true =>
 have hg := hB.symm
 unfold isFo at hg
 rw [Bool.and_eq_true] at hg
 have hlim := isGr_lim hg.1
 obtain ⟨rN, rfl⟩ : ∃ k : Nat, r = (k : Int) := ⟨r.toNat, by omega⟩
 obtain ⟨sN, rfl⟩ : ∃ k : Nat, s = (k : Int) := ⟨s.toNat, by omega⟩
 have hsub : IntKind.i64.wrap ((sN : Int) - 1) = (sN : Int) - 1 := IntWalk.i64_in _ (by omega)
 have hcx := fun W => in_any W x 0 ((sN : Int) - 1)
 have hcy := fun W => in_any W y 0 ((sN : Int) - 1)
 by_cases hx : 0 ≤ x ∧ x ≤ (sN : Int) - 1
 case neg =>
  have hd : decide (0 ≤ x ∧ x ≤ (sN : Int) - 1) = false := decide_eq_false hx
  have hfin := hidI (hno.out (hF0.out (by unfold okPath isVx; rw [← hB, show decide (0 ≤ x ∧ x < (sN : Int)) = false from decide_eq_false (by omega)]; rfl)) w2 hb12.out)
  clear hcy
  replace hB := hidI hB
  replace hg := hidI hg
  replace hlim := hidI hlim
  replace hx := hidI hx
  go_wp2_with (go_at_call 63; refine (hcx _).mono ?_; rintro e w3 ⟨rfl, rfl⟩)
  go_ret2
  exact hfin.out
 have hdx : decide (0 ≤ x ∧ x ≤ (sN : Int) - 1) = true := decide_eq_true hx
 simp only [hdx] at hcx
 by_cases hy : 0 ≤ y ∧ y ≤ (sN : Int) - 1
 case neg =>
  have hd : decide (0 ≤ y ∧ y ≤ (sN : Int) - 1) = false := decide_eq_false hy
  simp only [hd] at hcy
  have hfin := hidI (hno.out (hF0.out (by unfold okPath isVx; rw [show decide (0 ≤ y ∧ y < (sN : Int)) = false from decide_eq_false (by omega), Bool.and_false])) w2 hb12.out)
  replace hB := hidI hB
  replace hg := hidI hg
  replace hlim := hidI hlim
  replace hx := hidI hx
  replace hy := hidI hy
  go_wp2_with (go_at_call 63; first | ((with_reducible refine (hcx _).mono ?_); rintro e w3 ⟨rfl, rfl⟩) | ((with_reducible refine (hcy _).mono ?_); rintro e w4 ⟨rfl, rfl⟩))
  go_ret2
  exact hfin.out
 have hdy : decide (0 ≤ y ∧ y ≤ (sN : Int) - 1) = true := decide_eq_true hy
 simp only [hdy] at hcy
 have hok : okPath (rN : Int) (sN : Int) es x y = true := by
  unfold okPath isVx
  rw [← hB, show decide (0 ≤ x ∧ x < (sN : Int)) = true from decide_eq_true (by omega), show decide (0 ≤ y ∧ y < (sN : Int)) = true from decide_eq_true (by omega)]; rfl
 obtain ⟨xN, rfl⟩ : ∃ k : Nat, x = (k : Int) := ⟨x.toNat, by omega⟩
 obtain ⟨yN, rfl⟩ : ∃ k : Nat, y = (k : Int) := ⟨y.toNat, by omega⟩
 have hxi : (xN : Int) < (sN : Int) := by omega
 have hyi : (yN : Int) < (sN : Int) := by omega
 have hyN : yN < sN := by omega
 have hcs := specSearch w2 rN sN xN (.slice a n cap) es ((h.out.below hb12.out).mono hb12.out.size) (by have := hn.out; omega) hB.symm (by omega)
 obtain ⟨S, hS⟩ := exq (foundA (rN : Int) es (xN : Int))
 rw [← hS] at hcs hF1
 have hF3 := hF2.out hok
 rw [← hS] at hF3
 have hgood := foundA_good (r := (rN : Int)) hB.symm (u := (xN : Int)) (by omega)
 rw [← hS] at hgood
 replace hS := hidI hS
 replace hF3 := hidI hF3
 replace hgood := hidI hgood
 replace hok := hidI hok
 replace hB := hidI hB
 replace hg := hidI hg
 replace hlim := hidI hlim
 replace hx := hidI hx
 replace hy := hidI hy
 go_upto_region 3 with (go_at_call 63; first | ((with_reducible refine (hcx _).mono ?_); rintro e w3 ⟨rfl, rfl⟩) | ((with_reducible refine (hcy _).mono ?_); rintro e w4 ⟨rfl, rfl⟩))
 clear hcx hcy hdx hdy
 go_wp2_with fail
 refine hcs.mono ?_
 rintro e w5 ⟨base, G, H, c, rfl, hst, hb5⟩
 clear hcs g0 g1 g2
 have hb15 := hidI (hb12.out.trans (hb5.mono hb12.out.size))
 have cY := hst.seen.cell yN hyN
 clear hb5
 by_cases hin : (yN : Int) ∈ vts S
 case neg =>
  have d1 : decide ((yN : Int) ∈ vts S) = false := decide_eq_false hin
  rw [d1] at cY
  have hfin := hidI (hno.out (hF1.out hin) w5 hb15.out)
  replace hin := hidI hin
  replace hst := hidI hst
  go_wp2
  go_ret2
  exact hfin.out
 have d1 : decide ((yN : Int) ∈ vts S) = true := decide_eq_true hin
 rw [d1] at cY
 obtain ⟨hT, hA⟩ := hF3.out hin
 have hpl := placeA_lt hin
 obtain ⟨vw, cw0, hrw⟩ := hst.words.cell _ hpl.1
 rw [hpl.2, Int.toNat_natCast] at cw0
 have hwl := hgood.out.wlen _ hpl.1
 have hSl := hgood.out.length
 rw [← hA] at hrw hwl
 obtain ⟨_, aw, cw, rfl, _, _⟩ := id hrw
 obtain ⟨lw, hlw⟩ := exq FA.length
 rw [← hlw] at cw0 hrw
 have hFl : FA.length ≤ 1000 := by have := hlim.out; omega
 have hHlt := hst.Hlt
 have cw1 := below_cell cw0 ((Below.refl w5.heap.size w5).alloc (Nat.le_refl _) (.cells #[] 3)) hHlt
 have hrw1 : ReadI w5.heap.size (w5.alloc (.cells #[] 3)) (.slice aw lw cw) FA := by
  have := hrw
  exact this.below ((Below.refl w5.heap.size w5).alloc (Nat.le_refl _) (.cells #[] 3))
 replace hT := hidI hT
 replace hA := hidI hA
 replace hin := hidI hin
 replace hst := hidI hst
 replace hpl := hidI hpl
 replace hlw := hidI hlw
 replace hwl := hidI hwl
 replace hrw := hidI hrw
 replace hrw1 := hidI hrw1
 go_wp2_with (at_builtin; go_must (refine wpList_pushAllI rfl _ _ rfl w5.heap.size _ _ [] FA w5.heap.size rfl rfl (OwnsI.lit w5) hrw1.out (by simp; omega) (by simp) ?_))
 intro v' w6 hown6 hb6
 have hr : LwIntsBoolO w FA FT (.returned (.tuple #[v', .bool true])) w6 := by
  rw [hT.out]
  have hb9 := ((Below.refl w5.heap.size w5).alloc (Nat.le_refl _) (.cells #[] 3)).trans hb6
  exact ⟨_, rfl, (show OwnsI w6 w5.heap.size v' FA by simpa using hown6).mono hb15.out.size, hb15.out.trans (hb9.mono hb15.out.size)⟩
 replace hr := hidI hr
 clear hown6 hb6
 go_wp2
 go_ret2
 exact hr.out
theorem specTreeWordO (w : World) (r s : Int) (v : Value) (es : List Ed) (y : Int) (h : ReadE w.heap.size w v es) (hs : -9223372036854775808 ≤ s ∧ s ≤ 9223372036854775807) (hl : es.length ≤ 10000000) :
 Calls Tryz.prog 19 #[.agg #[.int .i64 r, .int .i64 s, v], .int .i64 y] w (IntsRetO w (pathA r s es 0 y)) := by
 obtain ⟨a, cap, rfl, hnc⟩ := h.form
 obtain ⟨n, hn⟩ := exq es.length
 rw [← hn] at hl hnc ⊢
 rw [← hn] at h
 obtain ⟨w1, hw1⟩ := exq (w.alloc (.cells #[.int .i64 r, .int .i64 s, .slice a n cap] 26))
 have hb1 : Below w.heap.size w w1 := by rw [hw1]; exact (Below.refl _ _).alloc (Nat.le_refl _) _
 obtain ⟨g0, g1, g2⟩ := box3 hw1
 have hcw := specPathO w1 r s (.slice a n cap) es 0 y ((h.below hb1).mono hb1.size) hs (by omega)
 obtain ⟨F, hF⟩ := exq (pathA r s es 0 y)
 obtain ⟨T, hT⟩ := exq (pathT r s es 0 y)
 rw [← hF, ← hT] at hcw
 rw [← hF]
 replace hF := hidI hF
 replace hT := hidI hT
 replace h := hidI h
 replace hn := hidI hn
 have hw1' := hidI hw1.symm
 replace hw1 := hidI hw1
 go_enter Tryz.func19, Tryz.ntmps19
 go_upto_region 1 with fail
 rw [hw1'.out]
 go_wp2_with fail
 refine hcw.mono ?_
 rintro e w5 ⟨v5, rfl, hrow5, hb5⟩
 have hr : IntsRetO w F (.returned v5) w5 := ⟨_, rfl, hrow5.mono hb1.size, hb1.trans (hb5.mono hb1.size)⟩
 replace hr := hidI hr
 clear hcw hrow5 hb5 g0 g1 g2
 go_wp2
 go_ret
 exact hr.out
theorem specTreeWord (w : World) (r s : Int) (v : Value) (es : List Ed) (y : Int) (h : ReadE w.heap.size w v es) (hs : -9223372036854775808 ≤ s ∧ s ≤ 9223372036854775807) (hl : es.length ≤ 10000000) :
 Calls Tryz.prog 19 #[.agg #[.int .i64 r, .int .i64 s, v], .int .i64 y] w (IntsRet w (pathA r s es 0 y)) :=
 (specTreeWordO w r s v es y h hs hl).mono fun e w' q => q.ret (by have := pathA_length r s es 0 y; omega)
end Go.Proofs.YtgnomlcjikfdhaaGreat
