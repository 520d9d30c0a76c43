import Derived.Deep.Cut
import Derived.Test.YtpjlamnjiilgbaaGreatJ17Ba
import Derived.Test.YtpjlamnjiilgbaaGreatJ16Ba
import Derived.Test.YtpjlamnjiilgbaaGreatJ7Ba
import Derived.Test.YtpjlamnjiilgbaaGreatJ15Ba
import Derived.Test.YtpjlamnjiilgbaaGreatJ9Ba
namespace Go.Proofs.YtpjlamnjiilgbaaGreat
open Go.RowKit
set_option linter.unusedVariables false
set_option linter.unusedSimpArgs false
theorem take_mem {T : List Ed} {k : Nat} {e : Ed} (h : k < T.length) : e ∈ T.take (k + 1) ↔ e ∈ T.take k ∨ T.getD k e0 = e := by
 rw [List.take_add_one, List.getElem?_eq_getElem h, List.mem_append, List.getD_eq_getElem?_getD, List.getElem?_eq_getElem h]
 simp [eq_comm]
set_option maxRecDepth 100000 in
set_option maxHeartbeats 3200000 in
theorem specExtra (w : World) (r s : Int) (v : Value) (es : List Ed) (h : ReadE w.heap.size w v es) (hs : -9223372036854775808 ≤ s ∧ s ≤ 9223372036854775807) (hl : es.length ≤ 10000000) :
 Calls Tryz.prog 49 #[.agg #[.int .i64 r, .int .i64 s, v]] w (LwEdges w (exE r s es)) := by
 obtain ⟨a, cap, rfl, hnc⟩ := h.form
 obtain ⟨n, hn⟩ := exq es.length
 rw [← hn] at hl hnc ⊢
 rw [← hn] at h
 obtain ⟨w1, hw1⟩ := exq (w.alloc (.cells #[.int .i64 r, .int .i64 s, .slice a n cap] 26))
 have hb1 : Below w.heap.size w w1 := by rw [hw1]; exact (Below.refl _ _).alloc (Nat.le_refl _) _
 have hs1 : w.heap.size < w1.heap.size := by rw [hw1]; simp
 obtain ⟨g0, g1, g2⟩ := box3 hw1
 have hct := specTreeL w1 r s (.slice a n cap) es ((h.below hb1).mono hb1.size) hs (by omega)
 obtain ⟨T, hT⟩ := exq (trE r s es)
 have hTl : T.length ≤ 39 := by rw [hT]; exact trE_length r s es
 rw [← hT] at hct
 obtain ⟨F, hF⟩ := exq (exE r s es)
 have hFl : F.length ≤ 120 := by rw [hF]; exact exE_length r s es
 rw [← hF]
 obtain ⟨B, hB⟩ := exq (isFo r s es)
 have hno : B = false → F = [] := fun q => by rw [hF, exE, ← hB, q]; rfl
 have hyes : B = true → F = notT T es := fun q => by rw [hF, hT]; exact exE_not (hB ▸ q)
 have hcf := fun (W : World) (hW : Below w.heap.size w W) => specFold W r s (.slice a n cap) es ((h.below hW).mono hW.size) hs (by omega)
 rw [← hB] at hcf
 replace hcf := hidI hcf
 replace hno := hidI hno
 replace hyes := hidI hyes
 replace hF := hidI hF
 replace hT := hidI hT
 replace hB := hidI hB
 replace hn := hidI hn
 replace h := hidI h
 have hw1' := hidI hw1.symm
 replace hw1 := hidI hw1
 go_enter Tryz.func49, Tryz.ntmps49
 go_upto_region 1 with fail
 rw [hw1'.out]
 obtain ⟨m, hm⟩ := exq T.length
 go_wp2_with fail
 refine hct.mono ?_
 rintro e w2 ⟨a3, c3, rfl, hrow, hb2⟩
 rw [← hm] at hrow ⊢
 clear hct
 replace g0 := below_cell g0 hb2 hs1
 replace g1 := below_cell g1 hb2 hs1
 replace g2 := below_cell g2 hb2 hs1
 have hb12 := hidI (hb1.trans (hb2.mono hb1.size))
 have hs2 : w.heap.size < w2.heap.size := Nat.lt_of_lt_of_le hs1 hb2.size
 have hrT : ReadE w2.heap.size w2 (.slice a3 m c3) T := by rw [hm]; rw [hm] at hrow; exact hrow.read
 obtain ⟨w3, hw3⟩ := exq (w2.alloc (.cells #[] 72))
 have hb3 : Below w2.heap.size w2 w3 := by rw [hw3]; exact (Below.refl _ _).alloc (Nat.le_refl _) _
 have hown3 : OwnsE w3 w2.heap.size (.slice (some ⟨w2.heap.size, 0, none⟩) 0 0) (notT T (es.take 0)) := by rw [hw3]; exact OwnsE.litE w2
 have hm39 : m ≤ 39 := by omega
 have hw3' := hidI hw3.symm
 replace hw3 := hidI hw3
 replace hm := hidI hm
 replace hrT := hidI hrT
 replace hown3 := hidI hown3
 have hb3h := hidI hb3
 clear hrow hb2 hb3
 go_wp2
 rw [hw3'.out]
 go_loopg [4, 5, 6, 7] n (fun g ov_ iv_ p_ kv_ wr => ∃ i : Nat, i + g = n ∧ iv_ = .int .i64 i ∧ Hid (OwnsE wr w2.heap.size ov_ (notT T (es.take i))) ∧ Hid (Below w2.heap.size w2 wr) ∧ Hid (0 < i → B = true))
 case atStart => exact ⟨0, by omega, rfl, hown3, hb3h, hidI (fun q => by omega)⟩
 case round =>
  clear hown3 hb3h
  obtain ⟨i, hi, rfl, hown, hb, hBt⟩ := hrel
  have hsz := hb.out.size
  have q0 := below_cell g0 hb.out hs2
  have q1 := below_cell g1 hb.out hs2
  have q2 := below_cell g2 hb.out hs2
  have hbr := hidI (hb12.out.trans (hb.out.mono hb12.out.size))
  obtain ⟨oa, om, oc, rfl⟩ := OwnsS.form3 hown.out
  by_cases hlt : i < n
  case neg =>
   obtain rfl : i = n := by omega
   have hii : ¬ (i : Int) < (i : Int) := by omega
   have hfin : LwEdges w F (.returned (.slice oa om oc)) wr := by
    have e : notT T (es.take i) = F := by
     rw [hn.out, List.take_length]
     cases hBB : B with
     | true => rw [hyes.out hBB]
     | false =>
      have h0 : es.length = 0 := by
       rcases Nat.eq_zero_or_pos i with q | q
       · rw [← hn.out]; exact q
       · have := hBt.out q; rw [hBB] at this; cases this
      rw [hno.out hBB, List.length_eq_zero_iff.1 h0]; rfl
    rw [← e]
    rw [← e] at hFl
    exact lwEdges_owns hown.out hbr.out (by omega) (by omega)
   replace hfin := hidI hfin
   replace hi := hidI hi
   go_wp2
   go_ret
   exact hfin.out
  have hii : (i : Int) < (n : Int) := by omega
  have hcw := hcf.out wr hbr.out
  have hws : w.heap.size < wr.heap.size := by omega
  cases B with
  | false =>
   have hfin : ∀ W, Below wr.heap.size wr W → LwEdges w F (.returned (.slice oa om oc)) W := fun W hW => by
    have h0 : i = 0 := by
     rcases Nat.eq_zero_or_pos i with q | q
     · exact q
     · have := hBt.out q; cases this
    have e : notT T (es.take i) = F := by rw [h0, hno.out rfl]; rfl
    rw [← e]
    rw [← e] at hFl
    exact lwEdges_owns (OwnsS.later hown.out hW (Nat.le_refl _)) (hbr.out.trans (hW.mono hbr.out.size)) (by omega) (by omega)
   replace hfin := hidI hfin
   replace hi := hidI hi
   go_wp2_with (go_at_call 76; refine hcw.mono ?_; rintro e w4 ⟨rfl, hb4⟩)
   have hr := hidI (hfin.out w4 hb4)
   clear hb4
   go_wp2
   go_ret
   exact hr.out
  | true =>
  have hil : i < es.length := by have := hn.out; omega
  obtain ⟨b, off, rfl, hbB, x0, x1, x2⟩ := ReadE.at3 (h.out.below hbr.out) i hil
  obtain ⟨f, l, t, hE⟩ : ∃ f l t, es.getD i e0 = (f, l, t) := ⟨_, _, _, rfl⟩
  rw [hE] at x0 x1 x2
  simp only at x0 x1 x2
  have hp0 : Hid (false = decide ((f, l, t) ∈ T.take 0)) := hidI (by simp)
  have hnxt := hidI (notT_next (T := T) hil)
  replace hi := hidI hi
  replace hE := hidI hE
  go_upto_region 6 with (go_at_call 76; refine hcw.mono ?_; rintro e w4 ⟨rfl, hb4⟩)
  clear hcw
  have hb24 := hidI (hb.out.trans (hb4.mono hsz))
  have hown4 := hidI (show OwnsE w4 w2.heap.size (.slice oa om oc) (notT T (es.take i)) from OwnsS.later hown.out hb4 (Nat.le_refl _))
  replace q0 := below_cell q0 hb4 hws
  replace q1 := below_cell q1 hb4 hws
  replace q2 := below_cell q2 hb4 hws
  replace x0 := below_cell x0 hb4 (by omega)
  replace x1 := below_cell x1 hb4 (by omega)
  replace x2 := below_cell x2 hb4 (by omega)
  have hs4 := hb4.size
  have hrT4 := hidI (hrT.out.below hb24.out)
  clear hb4
  go_wp2
  go_loopg [6, 7] m (fun g p_ kv_ wr => ∃ (k d : Nat) (p : Bool), k + g = m ∧ kv_ = .int .i64 k ∧ p_ = .bool p ∧ Hid (p = decide ((f, l, t) ∈ T.take k)) ∧ Hid (wr = w4.drewN d))
  case atStart => exact ⟨0, 0, false, by omega, rfl, rfl, hp0, hidI rfl⟩
  case round =>
   clear hp0
   obtain ⟨k, d, p, hk, rfl, rfl, hp, hwr⟩ := hrel
   have hwr' := hwr.out
   subst hwr'
   by_cases hlk : k < m
   · have hki : (k : Int) < (m : Int) := by omega
     have hkl : k < T.length := by have := hm.out; omega
     obtain ⟨bt, ot, rfl, hbt, y0, y1, y2⟩ := ReadE.at3 hrT4.out k hkl
     obtain ⟨f', l', t', hE'⟩ : ∃ f l t, T.getD k e0 = (f, l, t) := ⟨_, _, _, rfl⟩
     rw [hE'] at y0 y1 y2
     simp only at y0 y1 y2
     have hstep : ∀ p', p' = (p || decide ((f', l', t') = (f, l, t))) → p' = decide ((f, l, t) ∈ T.take (k + 1)) := fun p' q => by
      rw [q, hp.out]
      rw [← Bool.decide_or]
      refine decide_eq_decide.2 ?_
      rw [take_mem hkl, hE']
     replace hstep := hidI hstep
     replace hE' := hidI hE'
     replace hk := hidI hk
     cases p with
     | true =>
      have hp' := hidI (hstep.out true (by simp))
      go_wp2
      go_region
      go_wp2
      go_roundg (m - (k + 1))
      case rel => exact ⟨k + 1, d + 1, true, by have := hk.out; omega, by go_num, rfl, hp', hidI rfl⟩
      case measure => have := hk.out; omega
     | false =>
      have hne : (f', l', t') ≠ (f, l, t) → Hid (false = decide ((f, l, t) ∈ T.take (k + 1))) := fun q => hidI (hstep.out false (by rw [decide_eq_false q]; rfl))
      have hee : (f', l', t') = (f, l, t) → Hid (true = decide ((f, l, t) ∈ T.take (k + 1))) := fun q => hidI (hstep.out true (by rw [decide_eq_true q]; rfl))
      replace hne := hidI hne
      replace hee := hidI hee
      by_cases z1 : f' = f
      · by_cases z2 : l' = l
        · by_cases z3 : t' = t
          · have hp' := hee.out (by rw [z1, z2, z3])
            subst z1 z2 z3
            go_wp2
            go_region
            go_wp2
            go_roundg (m - (k + 1))
            case rel => exact ⟨k + 1, d + 1, true, by have := hk.out; omega, by go_num, rfl, hp', hidI rfl⟩
            case measure => have := hk.out; omega
          · have hp' := hne.out (by intro hh; simp at hh; exact z3 hh.2.2)
            subst z1 z2
            go_wp2
            go_region
            go_wp2
            go_roundg (m - (k + 1))
            case rel => exact ⟨k + 1, d + 1, false, by have := hk.out; omega, by go_num, rfl, hp', hidI rfl⟩
            case measure => have := hk.out; omega
        · have hp' := hne.out (by intro hh; simp at hh; exact z2 hh.2.1)
          subst z1
          go_wp2
          go_region
          go_wp2
          go_roundg (m - (k + 1))
          case rel => exact ⟨k + 1, d + 1, false, by have := hk.out; omega, by go_num, rfl, hp', hidI rfl⟩
          case measure => have := hk.out; omega
      · have hp' := hne.out (by intro hh; simp at hh; exact z1 hh.1)
        go_wp2
        go_region
        go_wp2
        go_roundg (m - (k + 1))
        case rel => exact ⟨k + 1, d + 1, false, by have := hk.out; omega, by go_num, rfl, hp', hidI rfl⟩
        case measure => have := hk.out; omega
   · obtain rfl : k = m := by omega
     have hki : ¬ (k : Int) < (k : Int) := by omega
     have hpT : p = decide ((f, l, t) ∈ T) := by rw [hp.out, List.take_of_length_le (by have := hm.out; omega)]
     replace hk := hidI hk
     rw [hE.out] at hnxt
     cases p with
     | true =>
      have hown5 : Hid (OwnsE (w4.drewN d) w2.heap.size (.slice oa om oc) (notT T (es.take (i + 1)))) := hidI (by
       rw [hnxt.out, if_neg (fun q => q (of_decide_eq_true hpT.symm)), List.append_nil]; exact hown4.out)
      have hb25 := hidI (below_dn hb24.out d)
      replace hpT := hidI hpT
      replace hp := hidI hp
      go_wp2
      go_roundg (n - (i + 1))
      case rel => exact ⟨i + 1, by have := hi.out; omega, by go_num, hown5, hb25, hidI (by simp)⟩
      case measure => have := hi.out; omega
     | false =>
      have hnt : (f, l, t) ∉ T := of_decide_eq_false hpT.symm
      rw [if_pos hnt] at hnxt
      obtain ⟨NT, hNT⟩ := exq (notT T (es.take i))
      have hNTl : NT.length ≤ 1000000 := by
       have h1 := List.length_filter_le (fun e => decide (e ∉ T)) (es.take i)
       have h2 := fo_lim (hB.out.symm)
       rw [hNT]; unfold notT; rw [List.length_take] at h1; omega
      rw [← hNT] at hown4 hnxt
      have hbd : Below w4.heap.size w4 (w4.drewN d) := below_dn (Below.refl _ _) d
      obtain ⟨wd, hwd⟩ := exq (w4.drewN d)
      rw [← hwd] at hbd ⊢
      have hsd : wd.heap.size = w4.heap.size := by rw [hwd]; rfl
      have hownd := hidI (show OwnsE wd w2.heap.size (.slice oa om oc) NT from OwnsS.later hown4.out hbd (Nat.le_refl _))
      replace q2 := below_cell q2 hbd (by omega)
      replace x0 := below_cell x0 hbd (by omega)
      replace x1 := below_cell x1 hbd (by omega)
      replace x2 := below_cell x2 hbd (by omega)
      have hb2d := hidI (hb24.out.trans (hbd.mono (by omega)))
      replace hNT := hidI hNT
      replace hnt := hidI hnt
      replace hpT := hidI hpT
      replace hp := hidI hp
      replace hwd := hidI hwd
      replace hsd := hidI hsd
      clear hbd
      go_wp2_with (at_builtin; go_must (refine wpList_pushE rfl _ _ rfl w2.heap.size (.slice oa om oc) NT _ _ _ rfl rfl hownd.out (by omega) (by have := hb2d.out.size; omega) ?_))
      intro v7 w7 hown7 hb7
      have hst7 : Hid (OwnsE w7 w2.heap.size v7 (notT T (es.take (i + 1)))) := hidI (by rw [hnxt.out]; exact hown7)
      have hb27 := hidI (hb2d.out.trans hb7)
      clear hown7 hb7
      go_wp2
      go_roundg (n - (i + 1))
      case rel => exact ⟨i + 1, by have := hi.out; omega, by go_num, hst7, hb27, hidI (by simp)⟩
      case measure => have := hi.out; omega
end Go.Proofs.YtpjlamnjiilgbaaGreat
namespace Go.Proofs.YtpjlamnjiilgbaaGreat
open Go.RowKit
set_option linter.unusedVariables false
set_option linter.unusedSimpArgs false
set_option maxRecDepth 100000 in
set_option maxHeartbeats 6400000 in
theorem specPathO (w : World) (r s : Int) (v : Value) (es : List Ed) (x y : Int) (h : ReadE w.heap.size w v es) (hs : -9223372036854775808 ≤ s ∧ s ≤ 9223372036854775807) (hl : es.length ≤ 10000000) :
 Calls Tryz.prog 121 #[.agg #[.int .i64 r, .int .i64 s, v], .int .i64 x, .int .i64 y] w (LwIntsBoolO w (pathA r s es x y) (pathT r s es x y)) := by
 obtain ⟨a, cap, rfl, hnc⟩ := h.form
 obtain ⟨n, hn⟩ := exq es.length
 rw [← hn] at hl hnc ⊢
 rw [← hn] at h
 obtain ⟨w1, hw1⟩ := exq (w.alloc (.cells #[.int .i64 r, .int .i64 s, .slice a n cap] 26))
 have hb1 : Below w.heap.size w w1 := by rw [hw1]; exact (Below.refl _ _).alloc (Nat.le_refl _) _
 have hs1 : w.heap.size < w1.heap.size := by rw [hw1]; simp
 obtain ⟨g0, g1, g2⟩ := box3 hw1
 have hcf := specFold w1 r s (.slice a n cap) es ((h.below hb1).mono hb1.size) hs (by omega)
 obtain ⟨B, hB⟩ := exq (isFo r s es)
 rw [← hB] at hcf
 obtain ⟨FA, hFA⟩ := exq (pathA r s es x y)
 obtain ⟨FT, hFT⟩ := exq (pathT r s es x y)
 rw [← hFA, ← hFT]
 have hno : FT = false → ∀ W : World, Below w.heap.size w W → LwIntsBoolO w FA FT (.returned (.tuple #[.slice (some ⟨W.heap.size, 0, none⟩) 0 0, .bool false])) (W.alloc (.cells #[] 3)) := fun h W hW => by
  have h2 : FA = [] := by rw [hFA]; unfold pathA; rw [← hFT, h]; rfl
  rw [h, h2]
  have hbn := (Below.refl W.heap.size W).alloc (Nat.le_refl _) (.cells #[] 3)
  exact ⟨_, rfl, (OwnsI.lit W).mono hW.size, hW.trans (hbn.mono hW.size)⟩
 have hF0 : okPath r s es x y = false → FT = false := fun h => by rw [hFT]; unfold pathT; rw [h]; rfl
 have hF1 : y ∉ vts (foundA r es x) → FT = false := fun h => by rw [hFT]; unfold pathT; rw [decide_eq_false h, Bool.and_false]
 have hF2 : okPath r s es x y = true → y ∈ vts (foundA r es x) → FT = true ∧ FA = ((foundA r es x).getD (placeA (foundA r es x) y) d0).2 := fun h1 h3 => by
  have hT : pathT r s es x y = true := by unfold pathT; rw [h1, decide_eq_true h3]; rfl
  exact ⟨by rw [hFT]; exact hT, by rw [hFA]; unfold pathA; rw [hT]; rfl⟩
 replace hno := hidI hno
 replace hF0 := hidI hF0
 replace hF1 := hidI hF1
 replace hF2 := hidI hF2
 replace hFA := hidI hFA
 replace hFT := hidI hFT
 replace hn := hidI hn
 replace hw1 := hidI hw1
 replace h := hidI h
 go_enter Tryz.func121, Tryz.ntmps121
 go_wp2_with fail
 rw [← hw1.out]
 refine hcf.mono ?_
 rintro e w2 ⟨rfl, hb2⟩
 clear hcf
 replace g0 := below_cell g0 hb2 hs1
 replace g1 := below_cell g1 hb2 hs1
 replace g2 := below_cell g2 hb2 hs1
 have hb12 := hidI (hb1.trans (hb2.mono hb1.size))
 have hs2 : w.heap.size < w2.heap.size := Nat.lt_of_lt_of_le hs1 hb2.size
 clear hb2
 cases B with
 | false =>
  have hfin := hidI (hno.out (hF0.out (by unfold okPath; rw [← hB]; rfl)) w2 hb12.out)
  replace hB := hidI hB
  go_wp2
  go_ret2
  exact hfin.out
 | true =>
 have hg := hB.symm
 unfold isFo at hg
 rw [Bool.and_eq_true] at hg
 have hlim := isGr_lim hg.1
 obtain ⟨rN, rfl⟩ : ∃ k : Nat, r = (k : Int) := ⟨r.toNat, by omega⟩
 obtain ⟨sN, rfl⟩ : ∃ k : Nat, s = (k : Int) := ⟨s.toNat, by omega⟩
 have hsub : IntKind.i64.wrap ((sN : Int) - 1) = (sN : Int) - 1 := IntWalk.i64_in _ (by omega)
 have hcx := fun W => in_any W x 0 ((sN : Int) - 1)
 have hcy := fun W => in_any W y 0 ((sN : Int) - 1)
 by_cases hx : 0 ≤ x ∧ x ≤ (sN : Int) - 1
 case neg =>
  have hd : decide (0 ≤ x ∧ x ≤ (sN : Int) - 1) = false := decide_eq_false hx
  have hfin := hidI (hno.out (hF0.out (by unfold okPath isVx; rw [← hB, show decide (0 ≤ x ∧ x < (sN : Int)) = false from decide_eq_false (by omega)]; rfl)) w2 hb12.out)
  clear hcy
  replace hB := hidI hB
  replace hg := hidI hg
  replace hlim := hidI hlim
  replace hx := hidI hx
  go_wp2_with (go_at_call 140; refine (hcx _).mono ?_; rintro e w3 ⟨rfl, rfl⟩)
  go_ret2
  exact hfin.out
 have hdx : decide (0 ≤ x ∧ x ≤ (sN : Int) - 1) = true := decide_eq_true hx
 simp only [hdx] at hcx
 by_cases hy : 0 ≤ y ∧ y ≤ (sN : Int) - 1
 case neg =>
  have hd : decide (0 ≤ y ∧ y ≤ (sN : Int) - 1) = false := decide_eq_false hy
  simp only [hd] at hcy
  have hfin := hidI (hno.out (hF0.out (by unfold okPath isVx; rw [show decide (0 ≤ y ∧ y < (sN : Int)) = false from decide_eq_false (by omega), Bool.and_false])) w2 hb12.out)
  replace hB := hidI hB
  replace hg := hidI hg
  replace hlim := hidI hlim
  replace hx := hidI hx
  replace hy := hidI hy
  go_wp2_with (go_at_call 140; first | ((with_reducible refine (hcx _).mono ?_); rintro e w3 ⟨rfl, rfl⟩) | ((with_reducible refine (hcy _).mono ?_); rintro e w4 ⟨rfl, rfl⟩))
  go_ret2
  exact hfin.out
 have hdy : decide (0 ≤ y ∧ y ≤ (sN : Int) - 1) = true := decide_eq_true hy
 simp only [hdy] at hcy
 have hok : okPath (rN : Int) (sN : Int) es x y = true := by
  unfold okPath isVx
  rw [← hB, show decide (0 ≤ x ∧ x < (sN : Int)) = true from decide_eq_true (by omega), show decide (0 ≤ y ∧ y < (sN : Int)) = true from decide_eq_true (by omega)]; rfl
 obtain ⟨xN, rfl⟩ : ∃ k : Nat, x = (k : Int) := ⟨x.toNat, by omega⟩
 obtain ⟨yN, rfl⟩ : ∃ k : Nat, y = (k : Int) := ⟨y.toNat, by omega⟩
 have hxi : (xN : Int) < (sN : Int) := by omega
 have hyi : (yN : Int) < (sN : Int) := by omega
 have hyN : yN < sN := by omega
 have hcs := specSearch w2 rN sN xN (.slice a n cap) es ((h.out.below hb12.out).mono hb12.out.size) (by have := hn.out; omega) hB.symm (by omega)
 obtain ⟨S, hS⟩ := exq (foundA (rN : Int) es (xN : Int))
 rw [← hS] at hcs hF1
 have hF3 := hF2.out hok
 rw [← hS] at hF3
 have hgood := foundA_good (r := (rN : Int)) hB.symm (u := (xN : Int)) (by omega)
 rw [← hS] at hgood
 replace hS := hidI hS
 replace hF3 := hidI hF3
 replace hgood := hidI hgood
 replace hok := hidI hok
 replace hB := hidI hB
 replace hg := hidI hg
 replace hlim := hidI hlim
 replace hx := hidI hx
 replace hy := hidI hy
 go_upto_region 3 with (go_at_call 140; first | ((with_reducible refine (hcx _).mono ?_); rintro e w3 ⟨rfl, rfl⟩) | ((with_reducible refine (hcy _).mono ?_); rintro e w4 ⟨rfl, rfl⟩))
 clear hcx hcy hdx hdy
 go_wp2_with fail
 refine hcs.mono ?_
 rintro e w5 ⟨base, G, H, c, rfl, hst, hb5⟩
 clear hcs g0 g1 g2
 have hb15 := hidI (hb12.out.trans (hb5.mono hb12.out.size))
 have cY := hst.seen.cell yN hyN
 clear hb5
 by_cases hin : (yN : Int) ∈ vts S
 case neg =>
  have d1 : decide ((yN : Int) ∈ vts S) = false := decide_eq_false hin
  rw [d1] at cY
  have hfin := hidI (hno.out (hF1.out hin) w5 hb15.out)
  replace hin := hidI hin
  replace hst := hidI hst
  go_wp2
  go_ret2
  exact hfin.out
 have d1 : decide ((yN : Int) ∈ vts S) = true := decide_eq_true hin
 rw [d1] at cY
 obtain ⟨hT, hA⟩ := hF3.out hin
 have hpl := placeA_lt hin
 obtain ⟨vw, cw0, hrw⟩ := hst.words.cell _ hpl.1
 rw [hpl.2, Int.toNat_natCast] at cw0
 have hwl := hgood.out.wlen _ hpl.1
 have hSl := hgood.out.length
 rw [← hA] at hrw hwl
 obtain ⟨_, aw, cw, rfl, _, _⟩ := id hrw
 obtain ⟨lw, hlw⟩ := exq FA.length
 rw [← hlw] at cw0 hrw
 have hFl : FA.length ≤ 1000 := by have := hlim.out; omega
 have hHlt := hst.Hlt
 have cw1 := below_cell cw0 ((Below.refl w5.heap.size w5).alloc (Nat.le_refl _) (.cells #[] 3)) hHlt
 have hrw1 : ReadI w5.heap.size (w5.alloc (.cells #[] 3)) (.slice aw lw cw) FA := by
  have := hrw
  exact this.below ((Below.refl w5.heap.size w5).alloc (Nat.le_refl _) (.cells #[] 3))
 replace hT := hidI hT
 replace hA := hidI hA
 replace hin := hidI hin
 replace hst := hidI hst
 replace hpl := hidI hpl
 replace hlw := hidI hlw
 replace hwl := hidI hwl
 replace hrw := hidI hrw
 replace hrw1 := hidI hrw1
 go_wp2_with (at_builtin; go_must (refine wpList_pushAllI rfl _ _ rfl w5.heap.size _ _ [] FA w5.heap.size rfl rfl (OwnsI.lit w5) hrw1.out (by simp; omega) (by simp) ?_))
 intro v' w6 hown6 hb6
 have hr : LwIntsBoolO w FA FT (.returned (.tuple #[v', .bool true])) w6 := by
  rw [hT.out]
  have hb9 := ((Below.refl w5.heap.size w5).alloc (Nat.le_refl _) (.cells #[] 3)).trans hb6
  exact ⟨_, rfl, (show OwnsI w6 w5.heap.size v' FA by simpa using hown6).mono hb15.out.size, hb15.out.trans (hb9.mono hb15.out.size)⟩
 replace hr := hidI hr
 clear hown6 hb6
 go_wp2
 go_ret2
 exact hr.out
theorem specTreeWordO (w : World) (r s : Int) (v : Value) (es : List Ed) (y : Int) (h : ReadE w.heap.size w v es) (hs : -9223372036854775808 ≤ s ∧ s ≤ 9223372036854775807) (hl : es.length ≤ 10000000) :
 Calls Tryz.prog 84 #[.agg #[.int .i64 r, .int .i64 s, v], .int .i64 y] w (IntsRetO w (pathA r s es 0 y)) := by
 obtain ⟨a, cap, rfl, hnc⟩ := h.form
 obtain ⟨n, hn⟩ := exq es.length
 rw [← hn] at hl hnc ⊢
 rw [← hn] at h
 obtain ⟨w1, hw1⟩ := exq (w.alloc (.cells #[.int .i64 r, .int .i64 s, .slice a n cap] 26))
 have hb1 : Below w.heap.size w w1 := by rw [hw1]; exact (Below.refl _ _).alloc (Nat.le_refl _) _
 obtain ⟨g0, g1, g2⟩ := box3 hw1
 have hcw := specPathO w1 r s (.slice a n cap) es 0 y ((h.below hb1).mono hb1.size) hs (by omega)
 obtain ⟨F, hF⟩ := exq (pathA r s es 0 y)
 obtain ⟨T, hT⟩ := exq (pathT r s es 0 y)
 rw [← hF, ← hT] at hcw
 rw [← hF]
 replace hF := hidI hF
 replace hT := hidI hT
 replace h := hidI h
 replace hn := hidI hn
 have hw1' := hidI hw1.symm
 replace hw1 := hidI hw1
 go_enter Tryz.func84, Tryz.ntmps84
 go_upto_region 1 with fail
 rw [hw1'.out]
 go_wp2_with fail
 refine hcw.mono ?_
 rintro e w5 ⟨v5, rfl, hrow5, hb5⟩
 have hr : IntsRetO w F (.returned v5) w5 := ⟨_, rfl, hrow5.mono hb1.size, hb1.trans (hb5.mono hb1.size)⟩
 replace hr := hidI hr
 clear hcw hrow5 hb5 g0 g1 g2
 go_wp2
 go_ret
 exact hr.out
theorem specTreeWord (w : World) (r s : Int) (v : Value) (es : List Ed) (y : Int) (h : ReadE w.heap.size w v es) (hs : -9223372036854775808 ≤ s ∧ s ≤ 9223372036854775807) (hl : es.length ≤ 10000000) :
 Calls Tryz.prog 84 #[.agg #[.int .i64 r, .int .i64 s, v], .int .i64 y] w (IntsRet w (pathA r s es 0 y)) :=
 (specTreeWordO w r s v es y h hs hl).mono fun e w' q => q.ret (by have := pathA_length r s es 0 y; omega)
end Go.Proofs.YtpjlamnjiilgbaaGreat
namespace Go.Proofs.YtpjlamnjiilgbaaGreat
open Go.RowKit
set_option linter.unusedVariables false
set_option linter.unusedSimpArgs false
theorem loL_length (r s : Int) (es : List Ed) (e : Ed) : (loL r s es e).length ≤ 81 := by
 unfold loL
 split
 · have h1 := mulL_length (pathA r s es 0 e.1 ++ [e.2.1]) (invL (pathA r s es 0 e.2.2))
   have h2 := pathA_length r s es 0 e.1
   have h3 := pathA_length r s es 0 e.2.2
   rw [invL_length, List.length_append, List.length_singleton] at h1
   omega
 · simp
theorem readI_one2 (w : World) (l : Int) : ReadI (w.heap.size + 1) (w.alloc (.cells #[.int .i64 l] 3)) (.slice (some ⟨w.heap.size, 0, none⟩) 1 1) [l] := by
 refine ⟨by simp, some ⟨w.heap.size, 0, none⟩, 1, rfl, ⟨fun h => (by cases h), by simp⟩, .inr ⟨w.heap.size, 0, rfl, by omega, fun i hi => ?_⟩⟩
 have h0 : i = 0 := by simpa using hi
 subst h0
 have := heap_alloc_new w (.cells #[.int .i64 l] 3)
 rw [cell_of_heap this]; rfl
structure LoSt (w0 w : World) (r s : Int) (v : Value) (f l t : Int) : Prop where
 bel : Below w0.heap.size w0 w
 g0 : w.cell? ⟨w0.heap.size, 0, none⟩ = some (.int .i64 r)
 g1 : w.cell? ⟨w0.heap.size, 1, none⟩ = some (.int .i64 s)
 g2 : w.cell? ⟨w0.heap.size, 2, none⟩ = some v
 e0 : w.cell? ⟨w0.heap.size + 1, 0, none⟩ = some (.int .i64 f)
 e1 : w.cell? ⟨w0.heap.size + 1, 1, none⟩ = some (.int .i64 l)
 e2 : w.cell? ⟨w0.heap.size + 1, 2, none⟩ = some (.int .i64 t)
 lt : w0.heap.size + 2 ≤ w.heap.size
theorem LoSt.below {w0 w w' : World} {r s f l t : Int} {v : Value} (h : LoSt w0 w r s v f l t) (hb : Below (w0.heap.size + 2) w w') : LoSt w0 w' r s v f l t := by
 obtain ⟨h1, h2, h3, h4, h5, h6, h7, h8⟩ := h
 have := hb.size
 exact ⟨h1.trans (hb.mono (by omega)), below_cell h2 hb (by omega), below_cell h3 hb (by omega), below_cell h4 hb (by omega), below_cell h5 hb (by omega), below_cell h6 hb (by omega), below_cell h7 hb (by omega), by omega⟩
set_option maxRecDepth 100000 in
set_option maxHeartbeats 3200000 in
theorem specLoopOf (w : World) (r s : Int) (v : Value) (es : List Ed) (f l t : Int) (h : ReadE w.heap.size w v es) (hs : -9223372036854775808 ≤ s ∧ s ≤ 9223372036854775807) (hl : es.length ≤ 10000000) :
 Calls Tryz.prog 50 #[.agg #[.int .i64 r, .int .i64 s, v], .agg #[.int .i64 f, .int .i64 l, .int .i64 t]] w (IntsRet w (loL r s es (f, l, t))) := by
 obtain ⟨a, cap, rfl, hnc⟩ := h.form
 obtain ⟨n, hn⟩ := exq es.length
 rw [← hn] at hl hnc ⊢
 rw [← hn] at h
 obtain ⟨w0, hw0⟩ := exq (w.alloc (.cells #[.int .i64 r, .int .i64 s, .slice a n cap] 26))
 have hb0 : Below w.heap.size w w0 := by rw [hw0]; exact (Below.refl _ _).alloc (Nat.le_refl _) _
 have hs0 : w0.heap.size = w.heap.size + 1 := by rw [hw0]; simp
 obtain ⟨g0, g1, g2⟩ := box3 hw0
 obtain ⟨w1, hw1⟩ := exq (w0.alloc (.cells #[.int .i64 f, .int .i64 l, .int .i64 t] 72))
 have hb01 : Below w0.heap.size w0 w1 := by rw [hw1]; exact (Below.refl _ _).alloc (Nat.le_refl _) _
 have hb1 : Below w.heap.size w w1 := hb0.trans (hb01.mono (by omega))
 have hs1 : w1.heap.size = w.heap.size + 1 + 1 := by rw [hw1]; simp; omega
 obtain ⟨e0_, e1_, e2_⟩ := box3 hw1
 rw [hs0] at e0_ e1_ e2_
 have hlo1 : LoSt w w1 r s (.slice a n cap) f l t := ⟨hb1, below_cell g0 hb01 (by omega), below_cell g1 hb01 (by omega), below_cell g2 hb01 (by omega), e0_, e1_, e2_, by omega⟩
 obtain ⟨F, hF⟩ := exq (loL r s es (f, l, t))
 rw [← hF]
 obtain ⟨B, hB⟩ := exq (isFo r s es)
 have hno : (B = false ∨ (f, l, t) ∉ es) → F = [] := fun q => by
  rw [hF]; unfold loL; rw [if_neg]
  rintro ⟨q1, q2⟩
  rcases q with q | q
  · rw [← hB, q] at q1; cases q1
  · exact q q2
 obtain ⟨X, hX⟩ := exq (pathA r s es 0 f)
 obtain ⟨Y, hY⟩ := exq (pathA r s es 0 t)
 have hXl : X.length ≤ 40 := by rw [hX]; exact pathA_length r s es 0 f
 have hYl : Y.length ≤ 40 := by rw [hY]; exact pathA_length r s es 0 t
 have hyes : B = true → (f, l, t) ∈ es → F = mulL (X ++ [l]) (invL Y) := fun q1 q2 => by
  rw [hF, hX, hY]; unfold loL; rw [if_pos ⟨hB ▸ q1, q2⟩]
 have hcf := fun (W : World) (hW : Below w.heap.size w W) => specFold W r s (.slice a n cap) es ((h.below hW).mono hW.size) hs (by omega)
 have hcX := fun (W : World) (hW : Below w.heap.size w W) => specTreeWordO W r s (.slice a n cap) es f ((h.below hW).mono hW.size) hs (by omega)
 have hcY := fun (W : World) (hW : Below w.heap.size w W) => specTreeWord W r s (.slice a n cap) es t ((h.below hW).mono hW.size) hs (by omega)
 rw [← hB] at hcf
 rw [← hX] at hcX
 rw [← hY] at hcY
 replace hcf := hidI hcf
 replace hcX := hidI hcX
 replace hcY := hidI hcY
 replace hno := hidI hno
 replace hyes := hidI hyes
 replace hF := hidI hF
 replace hX := hidI hX
 replace hY := hidI hY
 replace hB := hidI hB
 replace hn := hidI hn
 replace h := hidI h
 have hw1' : w1 = (w.alloc (.cells #[.int .i64 r, .int .i64 s, .slice a n cap] 26)).alloc (.cells #[.int .i64 f, .int .i64 l, .int .i64 t] 72) := by rw [hw1, hw0]
 have hw1s := hidI hw1'.symm
 have hrd1 := hidI (h.out.below hb1)
 have hp0 : Hid (false = decide ((f, l, t) ∈ es.take 0)) := hidI (by simp)
 obtain ⟨-, g0, g1, g2, e0_, e1_, e2_, hlt⟩ := id hlo1
 replace hlo1 := hidI hlo1
 replace hw1' := hidI hw1'
 replace hw1 := hidI hw1
 replace hw0 := hidI hw0
 replace hs0 := hidI hs0
 replace hs1 := hidI hs1
 clear hb0 hb01 hb1
 go_enter Tryz.func50, Tryz.ntmps50
 go_upto_region 1 with fail
 rw [hw1s.out]
 go_wp2
 go_loopg [5, 6] n (fun g p_ kv_ wr => ∃ (k d : Nat) (p : Bool), k + g = n ∧ kv_ = .int .i64 k ∧ p_ = .bool p ∧ Hid (p = decide ((f, l, t) ∈ es.take k)) ∧ Hid (wr = w1.drewN d))
 case atStart => exact ⟨0, 0, false, by omega, rfl, rfl, hp0, hidI rfl⟩
 case round =>
  clear hp0
  obtain ⟨k, d, p, hk, rfl, rfl, hp, hwr⟩ := hrel
  have hwr' := hwr.out
  subst hwr'
  by_cases hlk : k < n
  · have hki : (k : Int) < (n : Int) := by omega
    have hkl : k < es.length := by have := hn.out; omega
    obtain ⟨bt, ot, rfl, hbt, y0, y1, y2⟩ := ReadE.at3 hrd1.out k hkl
    obtain ⟨f', l', t', hE'⟩ : ∃ f l t, es.getD k e0 = (f, l, t) := ⟨_, _, _, rfl⟩
    rw [hE'] at y0 y1 y2
    simp only at y0 y1 y2
    have hstep : ∀ p', p' = (p || decide ((f', l', t') = (f, l, t))) → p' = decide ((f, l, t) ∈ es.take (k + 1)) := fun p' q => by
     rw [q, hp.out, ← Bool.decide_or]
     refine decide_eq_decide.2 ?_
     rw [take_mem hkl, hE']
    replace hstep := hidI hstep
    replace hE' := hidI hE'
    replace hk := hidI hk
    cases p with
    | true =>
     have hp' := hidI (hstep.out true (by simp))
     go_wp2
     go_region
     go_wp2
     go_roundg (n - (k + 1))
     case rel => exact ⟨k + 1, d + 1, true, by have := hk.out; omega, by go_num, rfl, hp', hidI rfl⟩
     case measure => have := hk.out; omega
    | false =>
     have hne : (f', l', t') ≠ (f, l, t) → Hid (false = decide ((f, l, t) ∈ es.take (k + 1))) := fun q => hidI (hstep.out false (by rw [decide_eq_false q]; rfl))
     have hee : (f', l', t') = (f, l, t) → Hid (true = decide ((f, l, t) ∈ es.take (k + 1))) := fun q => hidI (hstep.out true (by rw [decide_eq_true q]; rfl))
     replace hne := hidI hne
     replace hee := hidI hee
     by_cases z1 : f' = f
     · by_cases z2 : l' = l
       · by_cases z3 : t' = t
         · have hp' := hee.out (by rw [z1, z2, z3])
           rw [z1] at y0
           rw [z2] at y1
           rw [z3] at y2
           clear z1 z2 z3
           go_wp2
           go_region
           go_wp2
           go_roundg (n - (k + 1))
           case rel => exact ⟨k + 1, d + 1, true, by have := hk.out; omega, by go_num, rfl, hp', hidI rfl⟩
           case measure => have := hk.out; omega
         · have hp' := hne.out (by intro hh; simp at hh; exact z3 hh.2.2)
           rw [z1] at y0
           rw [z2] at y1
           clear z1 z2
           go_wp2
           go_region
           go_wp2
           go_roundg (n - (k + 1))
           case rel => exact ⟨k + 1, d + 1, false, by have := hk.out; omega, by go_num, rfl, hp', hidI rfl⟩
           case measure => have := hk.out; omega
       · have hp' := hne.out (by intro hh; simp at hh; exact z2 hh.2.1)
         rw [z1] at y0
         clear z1
         go_wp2
         go_region
         go_wp2
         go_roundg (n - (k + 1))
         case rel => exact ⟨k + 1, d + 1, false, by have := hk.out; omega, by go_num, rfl, hp', hidI rfl⟩
         case measure => have := hk.out; omega
     · have hp' := hne.out (by intro hh; simp at hh; exact z1 hh.1)
       go_wp2
       go_region
       go_wp2
       go_roundg (n - (k + 1))
       case rel => exact ⟨k + 1, d + 1, false, by have := hk.out; omega, by go_num, rfl, hp', hidI rfl⟩
       case measure => have := hk.out; omega
  · obtain rfl : k = n := by omega
    have hki : ¬ (k : Int) < (k : Int) := by omega
    have hpT : p = decide ((f, l, t) ∈ es) := by rw [hp.out, List.take_of_length_le (by have := hn.out; omega)]
    obtain ⟨w2, hw2⟩ := exq (w1.drewN d)
    have hlo2 : LoSt w w2 r s (.slice a k cap) f l t := by rw [hw2]; exact hlo1.out.below (below_dn (Below.refl _ _) d)
    rw [← hw2]
    have hcw := hcf.out w2 hlo2.bel
    obtain ⟨-, g0, g1, g2, e0_, e1_, e2_, -⟩ := id hlo2
    replace hk := hidI hk
    replace hp := hidI hp
    replace hw2 := hidI hw2
    by_cases hok : B = true ∧ p = true
    case neg =>
     have hF0 : F = [] := by
      refine hno.out ?_
      cases hBB : B with
      | false => exact .inl rfl
      | true =>
       refine .inr fun q => hok ⟨hBB, ?_⟩
       rw [hpT, decide_eq_true q]
     have hfin : ∀ W, Below w2.heap.size w2 W → IntsRet w F (.returned (.slice (some ⟨W.heap.size, 0, none⟩) 0 0)) (W.alloc (.cells #[] 3)) := fun W hW => by
      rw [hF0]
      have hb := hlo2.bel.trans (hW.mono hlo2.bel.size)
      exact ⟨_, rfl, ((OwnsI.lit W).row (by simp)).wide hb.size (Nat.le_refl _), hb.trans (((Below.refl W.heap.size W).alloc (Nat.le_refl _) _).mono hb.size)⟩
     replace hfin := hidI hfin
     replace hpT := hidI hpT
     replace hF0 := hidI hF0
     replace hlo2 := hidI hlo2
     cases B with
     | false =>
      replace hok := hidI hok
      go_wp2_with (go_at_call 76; refine hcw.mono ?_; rintro e w4 ⟨rfl, hb4⟩)
      have hr := hidI (hfin.out w4 hb4)
      clear hb4
      go_wp2
      go_ret
      exact hr.out
     | true =>
      cases p with
      | true => exact absurd ⟨rfl, rfl⟩ hok
      | false =>
       replace hok := hidI hok
       go_wp2_with (go_at_call 76; refine hcw.mono ?_; rintro e w4 ⟨rfl, hb4⟩)
       have hr := hidI (hfin.out w4 hb4)
       clear hb4
       go_wp2
       go_ret
       exact hr.out
    obtain ⟨rfl, rfl⟩ := hok
    have hFe := hidI (hyes.out rfl (of_decide_eq_true hpT.symm))
    replace hpT := hidI hpT
    replace hlo2 := hidI hlo2
    go_upto_region 8 with (go_at_call 76; refine hcw.mono ?_; rintro e w4 ⟨rfl, hb4⟩)
    obtain ⟨wd, hwd⟩ := exq w4.drew
    have hst : LoSt w wd r s (.slice a k cap) f l t := by rw [hwd]; exact (hlo2.out.below (hb4.mono hlo2.out.lt)).below (below_dn (Below.refl _ _) 1)
    obtain ⟨-, g0, g1, g2, e0_, e1_, e2_, -⟩ := id hst
    have hlt3 := hst.lt
    obtain ⟨B2, hB2⟩ := exq (w.heap.size + 2)
    have hlt4 : B2 ≤ wd.heap.size := by omega
    replace hst := hidI hst
    replace hwd := hidI hwd
    replace hB2 := hidI hB2
    clear hb4 hcw hlt3
    go_wp2
    refine hideQ (fun _ _ d _ _ h => by cases d <;> exact h) (fun Q' hnorm hpan => ?_)
    refine wp_region_held_drew (S := (fun W0 => W0.cell? ⟨w.heap.size, 0, none⟩ = some (.int .i64 r) ∧ W0.cell? ⟨w.heap.size, 1, none⟩ = some (.int .i64 s) ∧ W0.cell? ⟨w.heap.size, 2, none⟩ = some (.slice a k cap) ∧ W0.cell? ⟨w.heap.size + 1, 0, none⟩ = some (.int .i64 f) ∧ W0.cell? ⟨w.heap.size + 1, 1, none⟩ = some (.int .i64 l) ∧ W0.cell? ⟨w.heap.size + 1, 2, none⟩ = some (.int .i64 t))) (by kernel_rfl) ?_ (fun hHeld => ?_)
    · try dsimp only
      rw [← hwd.out]; exact ⟨g0, g1, g2, e0_, e1_, e2_⟩
    rw [← hwd.out] at hHeld ⊢
    refine tk 0 32 ?_
    refine tk 1 33 ?_
    refine tk 2 34 ?_
    refine tk 4 36 ?_
    refine tk 5 37 ?_
    refine tk 8 40 ?_
    refine tk 9 41 ?_
    refine tk 10 42 ?_
    refine wpAnyH_ready (rs := [3, 6]) (by kernel_rfl) (by simp) ?_
    refine AllReadyH.cons rfl (fun K hK => ?_) ?_
    ·
     rw [if_pos (by first | rfl | kernel_rfl)]
     go_simp
     go_at_call 84
     (with_reducible refine (hcX.out wd hst.out.bel).mono ?_)
     rintro e w3 ⟨v3, rfl, ho3, hbn⟩
     have hlt5 := hbn.size
     have hB3 : B2 ≤ wd.heap.size := by have := hst.out.lt; have := hB2.out; omega
     obtain ⟨a3, m3, c3, rfl⟩ := OwnsI.form4 ho3
     replace hst := hidI (hst.out.below (hbn.mono (by have := hst.out.lt; omega)))
     obtain ⟨-, g0, g1, g2, e0_, e1_, e2_, -⟩ := id hst.out
     replace ho3 := hidI (ho3.mono hB3)
     clear hbn
     refine hK.out _ _ ?_ (fun hHeld => ?_)
     · try dsimp only
       exact ⟨g0, g1, g2, e0_, e1_, e2_⟩
     clear hK
     try simp only [Act.put, lyA, lyB, lyC]
     refine rd 6 (fun K hK => ?_)
     rw [if_pos (by first | rfl | kernel_rfl)]
     go_simp
     obtain ⟨w6, hw6⟩ := exq (w3.alloc (.cells #[.int .i64 l] 3))
     have hbn : Below w3.heap.size w3 w6 := by rw [hw6]; exact (Below.refl _ _).alloc (Nat.le_refl _) _
     have hlt6 : w6.heap.size = w3.heap.size + 1 := by rw [hw6]; simp
     have hr6 := hidI (readI_one2 w3 l)
     rw [← hw6] at hr6
     rw [← hw6]
     replace hw6 := hidI hw6
     replace ho3 := hidI (ownI_other ho3.out (fun k hk => hbn.block k (World.ownsRow.lt ho3.out k hk).2))
     replace hst := hidI (hst.out.below (hbn.mono (by have := hst.out.lt; omega)))
     obtain ⟨-, g0, g1, g2, e0_, e1_, e2_, -⟩ := id hst.out
     clear hbn
     refine hK.out _ _ ?_ (fun hHeld => ?_)
     · try dsimp only
       exact ⟨g0, g1, g2, e0_, e1_, e2_⟩
     clear hK
     try simp only [Act.put, lyA, lyB, lyC]
     refine rd 7 (fun K hK => ?_)
     rw [if_pos (by first | rfl | kernel_rfl)]
     have hB7 : B2 ≤ w6.heap.size := by have := hst.out.lt; have := hB2.out; omega
     refine step_pushAllI_at _ _ rfl B2 (.slice a3 m3 c3) _ X [l] (w3.heap.size + 1) rfl rfl ho3.out hr6.out (by simp; omega) hB7 ?_
     intro v7 w7 ho7 hg7 hat7
     obtain ⟨a7, m7, c7, rfl⟩ := OwnsI.form4 ho7
     have hbn : Below B2 w6 w7 := (Below.refl B2 w6).grown hg7 hB7 (fun q hq => (World.ownsRow.lt ho3.out q hq).1)
     replace hst := hidI (hst.out.below (hbn.mono (by have := hB2.out; omega)))
     obtain ⟨-, g0, g1, g2, e0_, e1_, e2_, -⟩ := id hst.out
     have hr7 := hidI ((OwnsI.row ho7 (by simp; omega)).read)
     clear hbn hg7 hat7 ho7
     refine hK.out _ _ ?_ (fun hHeld => ?_)
     · try dsimp only
       exact ⟨g0, g1, g2, e0_, e1_, e2_⟩
     clear hK
     try simp only [Act.put, lyA, lyB, lyC]
     refine rd 11 (fun K hK => ?_)
     rw [if_pos (by first | rfl | kernel_rfl)]
     go_simp
     go_at_call 84
     (with_reducible refine (hcY.out w7 hst.out.bel).mono ?_)
     rintro e w8 ⟨v8, rfl, hr8, hbn⟩
     have hlt8 := hbn.size
     replace hst := hidI (hst.out.below (hbn.mono (by have := hst.out.lt; omega)))
     obtain ⟨-, g0, g1, g2, e0_, e1_, e2_, -⟩ := id hst.out
     replace hr7 := hidI ((hr7.out.below hbn).mono hbn.size)
     replace hr8 := hidI hr8.read
     clear hbn
     refine hK.out _ _ ?_ (fun hHeld => ?_)
     · try dsimp only
       exact ⟨g0, g1, g2, e0_, e1_, e2_⟩
     clear hK
     try simp only [Act.put, lyA, lyB, lyC]
     refine rd 12 (fun K hK => ?_)
     rw [if_pos (by first | rfl | kernel_rfl)]
     go_simp
     go_at_call 85
     (with_reducible refine (specInv w8 v8 Y hr8.out (by omega)).mono ?_)
     rintro e w9 ⟨v9, rfl, hr9, hbn⟩
     have hlt9 := hbn.size
     replace hst := hidI (hst.out.below (hbn.mono (by have := hst.out.lt; omega)))
     obtain ⟨-, g0, g1, g2, e0_, e1_, e2_, -⟩ := id hst.out
     replace hr7 := hidI ((hr7.out.below hbn).mono hbn.size)
     replace hr9 := hidI hr9.read
     clear hbn
     refine hK.out _ _ ?_ (fun hHeld => ?_)
     · try dsimp only
       exact ⟨g0, g1, g2, e0_, e1_, e2_⟩
     clear hK
     try simp only [Act.put, lyA, lyB, lyC]
     refine rd 13 (fun K hK => ?_)
     rw [if_pos (by first | rfl | kernel_rfl)]
     go_simp
     go_at_call 83
     (with_reducible refine (specMul w9 (.slice a7 m7 c7) v9 (X ++ [l]) (invL Y) hr7.out hr9.out (by simp; omega) (by rw [invL_length]; omega)).mono ?_)
     rintro e w10 ⟨v10, rfl, hr10, hbn⟩
     have hbl := hst.out.bel
     have hr : Hid (IntsRet w F (.returned v10) w10) := hidI (by rw [hFe.out]; exact ⟨v10, rfl, hr10.wide hbl.size (Nat.le_refl _), hbl.trans (hbn.mono hbl.size)⟩)
     replace hst := hidI (hst.out.below (hbn.mono (by have := hst.out.lt; omega)))
     obtain ⟨-, g0, g1, g2, e0_, e1_, e2_, -⟩ := id hst.out
     clear hbn hr10 hbl
     refine hK.out _ _ ?_ (fun hHeld => ?_)
     · try dsimp only
       exact ⟨g0, g1, g2, e0_, e1_, e2_⟩
     clear hK
     try simp only [Act.put, lyA, lyB, lyC]
     refine tk 14 4 ?_
     refine wpAnyH_done (by kernel_rfl) ?_ _
     refine hnorm _ _ ?_
     clear hnorm hpan
     repeat clear hHeld
     try simp only [Exit.then]
     go_wp2
     go_ret
     exact hr.out
    refine AllReadyH.cons rfl (fun K hK => ?_) AllReadyH.nil
    rw [if_pos (by first | rfl | kernel_rfl)]
    go_simp
    obtain ⟨w6, hw6⟩ := exq (wd.alloc (.cells #[.int .i64 l] 3))
    have hbn : Below wd.heap.size wd w6 := by rw [hw6]; exact (Below.refl _ _).alloc (Nat.le_refl _) _
    have hlt6 : w6.heap.size = wd.heap.size + 1 := by rw [hw6]; simp
    have hr6 := hidI (readI_one2 wd l)
    rw [← hw6] at hr6
    rw [← hw6]
    replace hw6 := hidI hw6
    replace hst := hidI (hst.out.below (hbn.mono (by have := hst.out.lt; omega)))
    obtain ⟨-, g0, g1, g2, e0_, e1_, e2_, -⟩ := id hst.out
    clear hbn
    refine hK.out _ _ ?_ (fun hHeld => ?_)
    · try dsimp only
      exact ⟨g0, g1, g2, e0_, e1_, e2_⟩
    clear hK
    try simp only [Act.put, lyA, lyB, lyC]
    refine rd 3 (fun K hK => ?_)
    rw [if_pos (by first | rfl | kernel_rfl)]
    go_simp
    go_at_call 84
    (with_reducible refine (hcX.out w6 hst.out.bel).mono ?_)
    rintro e w3 ⟨v3, rfl, ho3, hbn⟩
    have hlt5 := hbn.size
    have hB3 : B2 ≤ w6.heap.size := by have := hst.out.lt; have := hB2.out; omega
    obtain ⟨a3, m3, c3, rfl⟩ := OwnsI.form4 ho3
    replace hst := hidI (hst.out.below (hbn.mono (by have := hst.out.lt; omega)))
    obtain ⟨-, g0, g1, g2, e0_, e1_, e2_, -⟩ := id hst.out
    replace ho3 := hidI (ho3.mono hB3)
    replace hr6 := hidI (hr6.out.below (hbn.mono (by omega)))
    clear hbn
    refine hK.out _ _ ?_ (fun hHeld => ?_)
    · try dsimp only
      exact ⟨g0, g1, g2, e0_, e1_, e2_⟩
    clear hK
    try simp only [Act.put, lyA, lyB, lyC]
    refine rd 7 (fun K hK => ?_)
    rw [if_pos (by first | rfl | kernel_rfl)]
    have hB7 : B2 ≤ w3.heap.size := by have := hst.out.lt; have := hB2.out; omega
    refine step_pushAllI_at _ _ rfl B2 (.slice a3 m3 c3) _ X [l] (wd.heap.size + 1) rfl rfl ho3.out hr6.out (by simp; omega) hB7 ?_
    intro v7 w7 ho7 hg7 hat7
    obtain ⟨a7, m7, c7, rfl⟩ := OwnsI.form4 ho7
    have hbn : Below B2 w3 w7 := (Below.refl B2 w3).grown hg7 hB7 (fun q hq => (World.ownsRow.lt ho3.out q hq).1)
    replace hst := hidI (hst.out.below (hbn.mono (by have := hB2.out; omega)))
    obtain ⟨-, g0, g1, g2, e0_, e1_, e2_, -⟩ := id hst.out
    have hr7 := hidI ((OwnsI.row ho7 (by simp; omega)).read)
    clear hbn hg7 hat7 ho7
    refine hK.out _ _ ?_ (fun hHeld => ?_)
    · try dsimp only
      exact ⟨g0, g1, g2, e0_, e1_, e2_⟩
    clear hK
    try simp only [Act.put, lyA, lyB, lyC]
    refine rd 11 (fun K hK => ?_)
    rw [if_pos (by first | rfl | kernel_rfl)]
    go_simp
    go_at_call 84
    (with_reducible refine (hcY.out w7 hst.out.bel).mono ?_)
    rintro e w8 ⟨v8, rfl, hr8, hbn⟩
    have hlt8 := hbn.size
    replace hst := hidI (hst.out.below (hbn.mono (by have := hst.out.lt; omega)))
    obtain ⟨-, g0, g1, g2, e0_, e1_, e2_, -⟩ := id hst.out
    replace hr7 := hidI ((hr7.out.below hbn).mono hbn.size)
    replace hr8 := hidI hr8.read
    clear hbn
    refine hK.out _ _ ?_ (fun hHeld => ?_)
    · try dsimp only
      exact ⟨g0, g1, g2, e0_, e1_, e2_⟩
    clear hK
    try simp only [Act.put, lyA, lyB, lyC]
    refine rd 12 (fun K hK => ?_)
    rw [if_pos (by first | rfl | kernel_rfl)]
    go_simp
    go_at_call 85
    (with_reducible refine (specInv w8 v8 Y hr8.out (by omega)).mono ?_)
    rintro e w9 ⟨v9, rfl, hr9, hbn⟩
    have hlt9 := hbn.size
    replace hst := hidI (hst.out.below (hbn.mono (by have := hst.out.lt; omega)))
    obtain ⟨-, g0, g1, g2, e0_, e1_, e2_, -⟩ := id hst.out
    replace hr7 := hidI ((hr7.out.below hbn).mono hbn.size)
    replace hr9 := hidI hr9.read
    clear hbn
    refine hK.out _ _ ?_ (fun hHeld => ?_)
    · try dsimp only
      exact ⟨g0, g1, g2, e0_, e1_, e2_⟩
    clear hK
    try simp only [Act.put, lyA, lyB, lyC]
    refine rd 13 (fun K hK => ?_)
    rw [if_pos (by first | rfl | kernel_rfl)]
    go_simp
    go_at_call 83
    (with_reducible refine (specMul w9 (.slice a7 m7 c7) v9 (X ++ [l]) (invL Y) hr7.out hr9.out (by simp; omega) (by rw [invL_length]; omega)).mono ?_)
    rintro e w10 ⟨v10, rfl, hr10, hbn⟩
    have hbl := hst.out.bel
    have hr : Hid (IntsRet w F (.returned v10) w10) := hidI (by rw [hFe.out]; exact ⟨v10, rfl, hr10.wide hbl.size (Nat.le_refl _), hbl.trans (hbn.mono hbl.size)⟩)
    replace hst := hidI (hst.out.below (hbn.mono (by have := hst.out.lt; omega)))
    obtain ⟨-, g0, g1, g2, e0_, e1_, e2_, -⟩ := id hst.out
    clear hbn hr10 hbl
    refine hK.out _ _ ?_ (fun hHeld => ?_)
    · try dsimp only
      exact ⟨g0, g1, g2, e0_, e1_, e2_⟩
    clear hK
    try simp only [Act.put, lyA, lyB, lyC]
    refine tk 14 4 ?_
    refine wpAnyH_done (by kernel_rfl) ?_ _
    refine hnorm _ _ ?_
    clear hnorm hpan
    repeat clear hHeld
    try simp only [Exit.then]
    go_wp2
    go_ret
    exact hr.out
end Go.Proofs.YtpjlamnjiilgbaaGreat
