import Derived.Test.YtgnomlcjikfdhaaGreatJ32Tr
namespace Go.Proofs.YtgnomlcjikfdhaaGreat
open Go.RowKit
set_option linter.unusedVariables false
set_option linter.unusedSimpArgs false
theorem take_mem {T : List Ed} {k : Nat} {e : Ed} (h : k < T.length) : e ∈ T.take (k + 1) ↔ e ∈ T.take k ∨ T.getD k e0 = e := by
 rw [List.take_add_one, List.getElem?_eq_getElem h, List.mem_append, List.getD_eq_getElem?_getD, List.getElem?_eq_getElem h]
 simp [eq_comm]
set_option maxRecDepth 100000 in
set_option maxHeartbeats 3200000 in
theorem specExtra (w : World) (r s : Int) (v : Value) (es : List Ed) (h : ReadE w.heap.size w v es) (hs : -9223372036854775808 ≤ s ∧ s ≤ 9223372036854775807) (hl : es.length ≤ 10000000) :
 Calls Tryz.prog 11 #[.agg #[.int .i64 r, .int .i64 s, v]] w (LwEdges w (exE r s es)) := by
 obtain ⟨a, cap, rfl, hnc⟩ := h.form
 obtain ⟨n, hn⟩ := exq es.length
 rw [← hn] at hl hnc ⊢
 rw [← hn] at h
 obtain ⟨w1, hw1⟩ := exq (w.alloc (.cells #[.int .i64 r, .int .i64 s, .slice a n cap] 26))
 have hb1 : Below w.heap.size w w1 := by rw [hw1]; exact (Below.refl _ _).alloc (Nat.le_refl _) _
 have hs1 : w.heap.size < w1.heap.size := by rw [hw1]; simp
 obtain ⟨g0, g1, g2⟩ := box3 hw1
 have hct := specTreeL w1 r s (.slice a n cap) es ((h.below hb1).mono hb1.size) hs (by omega)
 obtain ⟨T, hT⟩ := exq (trE r s es)
 have hTl : T.length ≤ 39 := by rw [hT]; exact trE_length r s es
 rw [← hT] at hct
 obtain ⟨F, hF⟩ := exq (exE r s es)
 have hFl : F.length ≤ 120 := by rw [hF]; exact exE_length r s es
 rw [← hF]
 obtain ⟨B, hB⟩ := exq (isFo r s es)
 have hno : B = false → F = [] := fun q => by rw [hF, exE, ← hB, q]; rfl
 have hyes : B = true → F = notT T es := fun q => by rw [hF, hT]; exact exE_not (hB ▸ q)
 have hcf := fun (W : World) (hW : Below w.heap.size w W) => specFold W r s (.slice a n cap) es ((h.below hW).mono hW.size) hs (by omega)
 rw [← hB] at hcf
 replace hcf := hidI hcf
 replace hno := hidI hno
 replace hyes := hidI hyes
 replace hF := hidI hF
 replace hT := hidI hT
 replace hB := hidI hB
 replace hn := hidI hn
 replace h := hidI h
 have hw1' := hidI hw1.symm
 replace hw1 := hidI hw1
 go_enter Tryz.func11, Tryz.ntmps11
 go_upto_region 1 with fail
 rw [hw1'.out]
 obtain ⟨m, hm⟩ := exq T.length
 go_wp2_with fail
 refine hct.mono ?_
 rintro e w2 ⟨a3, c3, rfl, hrow, hb2⟩
 rw [← hm] at hrow ⊢
 clear hct
 replace g0 := below_cell g0 hb2 hs1
 replace g1 := below_cell g1 hb2 hs1
 replace g2 := below_cell g2 hb2 hs1
 have hb12 := hidI (hb1.trans (hb2.mono hb1.size))
 have hs2 : w.heap.size < w2.heap.size := Nat.lt_of_lt_of_le hs1 hb2.size
 have hrT : ReadE w2.heap.size w2 (.slice a3 m c3) T := by rw [hm]; rw [hm] at hrow; exact hrow.read
 obtain ⟨w3, hw3⟩ := exq (w2.alloc (.cells #[] 36))
 have hb3 : Below w2.heap.size w2 w3 := by rw [hw3]; exact (Below.refl _ _).alloc (Nat.le_refl _) _
 have hown3 : OwnsE w3 w2.heap.size (.slice (some ⟨w2.heap.size, 0, none⟩) 0 0) (notT T (es.take 0)) := by rw [hw3]; exact OwnsE.litE w2
 have hm39 : m ≤ 39 := by omega
 have hw3' := hidI hw3.symm
 replace hw3 := hidI hw3
 replace hm := hidI hm
 replace hrT := hidI hrT
 replace hown3 := hidI hown3
 have hb3h := hidI hb3
 clear hrow hb2 hb3
 go_wp2
 rw [hw3'.out]
 go_loopg [4, 5, 6, 7] n (fun g ov_ iv_ p_ kv_ wr => ∃ i : Nat, i + g = n ∧ iv_ = .int .i64 i ∧ Hid (OwnsE wr w2.heap.size ov_ (notT T (es.take i))) ∧ Hid (Below w2.heap.size w2 wr) ∧ Hid (0 < i → B = true))
 case atStart => exact ⟨0, by omega, rfl, hown3, hb3h, hidI (fun q => by omega)⟩
 case round =>
  clear hown3 hb3h
  obtain ⟨i, hi, rfl, hown, hb, hBt⟩ := hrel
  have hsz := hb.out.size
  have q0 := below_cell g0 hb.out hs2
  have q1 := below_cell g1 hb.out hs2
  have q2 := below_cell g2 hb.out hs2
  have hbr := hidI (hb12.out.trans (hb.out.mono hb12.out.size))
  obtain ⟨oa, om, oc, rfl⟩ := OwnsS.form3 hown.out
  by_cases hlt : i < n
  case neg =>
   obtain rfl : i = n := by omega
   have hii : ¬ (i : Int) < (i : Int) := by omega
   have hfin : LwEdges w F (.returned (.slice oa om oc)) wr := by
    have e : notT T (es.take i) = F := by
     rw [hn.out, List.take_length]
     cases hBB : B with
     | true => rw [hyes.out hBB]
     | false =>
      have h0 : es.length = 0 := by
       rcases Nat.eq_zero_or_pos i with q | q
       · rw [← hn.out]; exact q
       · have := hBt.out q; rw [hBB] at this; cases this
      rw [hno.out hBB, List.length_eq_zero_iff.1 h0]; rfl
    rw [← e]
    rw [← e] at hFl
    exact lwEdges_owns hown.out hbr.out (by omega) (by omega)
   replace hfin := hidI hfin
   replace hi := hidI hi
   go_wp2
   go_ret
   exact hfin.out
  have hii : (i : Int) < (n : Int) := by omega
  have hcw := hcf.out wr hbr.out
  have hws : w.heap.size < wr.heap.size := by omega
  cases B with
  | false =>
   have hfin : ∀ W, Below wr.heap.size wr W → LwEdges w F (.returned (.slice oa om oc)) W := fun W hW => by
    have h0 : i = 0 := by
     rcases Nat.eq_zero_or_pos i with q | q
     · exact q
     · have := hBt.out q; cases this
    have e : notT T (es.take i) = F := by rw [h0, hno.out rfl]; rfl
    rw [← e]
    rw [← e] at hFl
    exact lwEdges_owns (OwnsS.later hown.out hW (Nat.le_refl _)) (hbr.out.trans (hW.mono hbr.out.size)) (by omega) (by omega)
   replace hfin := hidI hfin
   replace hi := hidI hi
   go_wp2_with (go_at_call 12; refine hcw.mono ?_; rintro e w4 ⟨rfl, hb4⟩)
   have hr := hidI (hfin.out w4 hb4)
   clear hb4
   go_wp2
   go_ret
   exact hr.out
  | true =>
  have hil : i < es.length := by have := hn.out; omega
  obtain ⟨b, off, rfl, hbB, x0, x1, x2⟩ := ReadE.at3 (h.out.below hbr.out) i hil
  obtain ⟨f, l, t, hE⟩ : ∃ f l t, es.getD i e0 = (f, l, t) := ⟨_, _, _, rfl⟩
  rw [hE] at x0 x1 x2
  simp only at x0 x1 x2
  have hp0 : Hid (false = decide ((f, l, t) ∈ T.take 0)) := hidI (by simp)
  have hnxt := hidI (notT_next (T := T) hil)
  replace hi := hidI hi
  replace hE := hidI hE
  go_upto_region 6 with (go_at_call 12; refine hcw.mono ?_; rintro e w4 ⟨rfl, hb4⟩)
  clear hcw
  have hb24 := hidI (hb.out.trans (hb4.mono hsz))
  have hown4 := hidI (show OwnsE w4 w2.heap.size (.slice oa om oc) (notT T (es.take i)) from OwnsS.later hown.out hb4 (Nat.le_refl _))
  replace q0 := below_cell q0 hb4 hws
  replace q1 := below_cell q1 hb4 hws
  replace q2 := below_cell q2 hb4 hws
  replace x0 := below_cell x0 hb4 (by omega)
  replace x1 := below_cell x1 hb4 (by omega)
  replace x2 := below_cell x2 hb4 (by omega)
  have hs4 := hb4.size
  have hrT4 := hidI (hrT.out.below hb24.out)
  clear hb4
  go_wp2
  go_loopg [6, 7] m (fun g p_ kv_ wr => ∃ (k d : Nat) (p : Bool), k + g = m ∧ kv_ = .int .i64 k ∧ p_ = .bool p ∧ Hid (p = decide ((f, l, t) ∈ T.take k)) ∧ Hid (wr = w4.drewN d))
  case atStart => exact ⟨0, 0, false, by omega, rfl, rfl, hp0, hidI rfl⟩
  case round =>
   clear hp0
   obtain ⟨k, d, p, hk, rfl, rfl, hp, hwr⟩ := hrel
   have hwr' := hwr.out
   subst hwr'
   by_cases hlk : k < m
   · have hki : (k : Int) < (m : Int) := by omega
     have hkl : k < T.length := by have := hm.out; omega
     obtain ⟨bt, ot, rfl, hbt, y0, y1, y2⟩ := ReadE.at3 hrT4.out k hkl
     obtain ⟨f', l', t', hE'⟩ : ∃ f l t, T.getD k e0 = (f, l, t) := ⟨_, _, _, rfl⟩
     rw [hE'] at y0 y1 y2
     simp only at y0 y1 y2
     have hstep : ∀ p', p' = (p || decide ((f', l', t') = (f, l, t))) → p' = decide ((f, l, t) ∈ T.take (k + 1)) := fun p' q => by
      rw [q, hp.out]
      rw [← Bool.decide_or]
      refine decide_eq_decide.2 ?_
      rw [take_mem hkl, hE']
     replace hstep := hidI hstep
     replace hE' := hidI hE'
     replace hk := hidI hk
     cases p with
     | true =>
      have hp' := hidI (hstep.out true (by simp))
      go_wp2
      go_region
      go_wp2
      go_roundg (m - (k + 1))
      case rel => exact ⟨k + 1, d + 1, true, by have := hk.out; omega, by go_num, rfl, hp', hidI rfl⟩
      case measure => have := hk.out; omega
     | false =>
      have hne : (f', l', t') ≠ (f, l, t) → Hid (false = decide ((f, l, t) ∈ T.take (k + 1))) := fun q => hidI (hstep.out false (by rw [decide_eq_false q]; rfl))
      have hee : (f', l', t') = (f, l, t) → Hid (true = decide ((f, l, t) ∈ T.take (k + 1))) := fun q => hidI (hstep.out true (by rw [decide_eq_true q]; rfl))
      replace hne := hidI hne
      replace hee := hidI hee
      by_cases z1 : f' = f
      · by_cases z2 : l' = l
        · by_cases z3 : t' = t
          · have hp' := hee.out (by rw [z1, z2, z3])
            subst z1 z2 z3
            go_wp2
            go_region
            go_wp2
            go_roundg (m - (k + 1))
            case rel => exact ⟨k + 1, d + 1, true, by have := hk.out; omega, by go_num, rfl, hp', hidI rfl⟩
            case measure => have := hk.out; omega
          · have hp' := hne.out (by intro hh; simp at hh; exact z3 hh.2.2)
            subst z1 z2
            go_wp2
            go_region
            go_wp2
            go_roundg (m - (k + 1))
            case rel => exact ⟨k + 1, d + 1, false, by have := hk.out; omega, by go_num, rfl, hp', hidI rfl⟩
            case measure => have := hk.out; omega
        · have hp' := hne.out (by intro hh; simp at hh; exact z2 hh.2.1)
          subst z1
          go_wp2
          go_region
          go_wp2
          go_roundg (m - (k + 1))
          case rel => exact ⟨k + 1, d + 1, false, by have := hk.out; omega, by go_num, rfl, hp', hidI rfl⟩
          case measure => have := hk.out; omega
      · have hp' := hne.out (by intro hh; simp at hh; exact z1 hh.1)
        go_wp2
        go_region
        go_wp2
        go_roundg (m - (k + 1))
        case rel => exact ⟨k + 1, d + 1, false, by have := hk.out; omega, by go_num, rfl, hp', hidI rfl⟩
        case measure => have := hk.out; omega
   · obtain rfl : k = m := by omega
     have hki : ¬ (k : Int) < (k : Int) := by omega
     have hpT : p = decide ((f, l, t) ∈ T) := by rw [hp.out, List.take_of_length_le (by have := hm.out; omega)]
     replace hk := hidI hk
     rw [hE.out] at hnxt
     cases p with
     | true =>
      have hown5 : Hid (OwnsE (w4.drewN d) w2.heap.size (.slice oa om oc) (notT T (es.take (i + 1)))) := hidI (by
       rw [hnxt.out, if_neg (fun q => q (of_decide_eq_true hpT.symm)), List.append_nil]; exact hown4.out)
      have hb25 := hidI (below_dn hb24.out d)
      replace hpT := hidI hpT
      replace hp := hidI hp
      go_wp2
      go_roundg (n - (i + 1))
      case rel => exact ⟨i + 1, by have := hi.out; omega, by go_num, hown5, hb25, hidI (by simp)⟩
      case measure => have := hi.out; omega
     | false =>
      have hnt : (f, l, t) ∉ T := of_decide_eq_false hpT.symm
      rw [if_pos hnt] at hnxt
      obtain ⟨NT, hNT⟩ := exq (notT T (es.take i))
      have hNTl : NT.length ≤ 1000000 := by
       have h1 := List.length_filter_le (fun e => decide (e ∉ T)) (es.take i)
       have h2 := fo_lim (hB.out.symm)
       rw [hNT]; unfold notT; rw [List.length_take] at h1; omega
      rw [← hNT] at hown4 hnxt
      have hbd : Below w4.heap.size w4 (w4.drewN d) := below_dn (Below.refl _ _) d
      obtain ⟨wd, hwd⟩ := exq (w4.drewN d)
      rw [← hwd] at hbd ⊢
      have hsd : wd.heap.size = w4.heap.size := by rw [hwd]; rfl
      have hownd := hidI (show OwnsE wd w2.heap.size (.slice oa om oc) NT from OwnsS.later hown4.out hbd (Nat.le_refl _))
      replace q2 := below_cell q2 hbd (by omega)
      replace x0 := below_cell x0 hbd (by omega)
      replace x1 := below_cell x1 hbd (by omega)
      replace x2 := below_cell x2 hbd (by omega)
      have hb2d := hidI (hb24.out.trans (hbd.mono (by omega)))
      replace hNT := hidI hNT
      replace hnt := hidI hnt
      replace hpT := hidI hpT
      replace hp := hidI hp
      replace hwd := hidI hwd
      replace hsd := hidI hsd
      clear hbd
      go_wp2_with (at_builtin; go_must (refine wpList_pushE rfl _ _ rfl w2.heap.size (.slice oa om oc) NT _ _ _ rfl rfl hownd.out (by omega) (by have := hb2d.out.size; omega) ?_))
      intro v7 w7 hown7 hb7
      have hst7 : Hid (OwnsE w7 w2.heap.size v7 (notT T (es.take (i + 1)))) := hidI (by rw [hnxt.out]; exact hown7)
      have hb27 := hidI (hb2d.out.trans hb7)
      clear hown7 hb7
      go_wp2
      go_roundg (n - (i + 1))
      case rel => exact ⟨i + 1, by have := hi.out; omega, by go_num, hst7, hb27, hidI (by simp)⟩
      case measure => have := hi.out; omega
end Go.Proofs.YtgnomlcjikfdhaaGreat
