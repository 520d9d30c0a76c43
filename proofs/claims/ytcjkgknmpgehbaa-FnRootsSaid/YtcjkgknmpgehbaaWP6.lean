/- Cyclic words, the program: CyclicCore, CyclicForm, CyclicLength. -/
import Derived.Test.YtcjkgknmpgehbaaWP5
import Derived.Test.YtcjkgknmpgehbaaLW2
import Derived.Test.YtcjkgknmpgehbaaWY3
namespace Go.Proofs.Ytcjkgknmpgehbaa
open Go.RowKit
set_option linter.unusedVariables false

/-- A part of a row. -/
theorem RowI.part {w : World} {lo hi g off n cap : Nat} {zs : List Int} (h : RowI w lo hi (.slice (some ⟨g, off, none⟩) n cap) zs) (j m cap' : Nat) (hjm : j + m ≤ zs.length) (hmc : m ≤ cap') :
    RowI w lo hi (.slice (some ⟨g, off + j, none⟩) m cap') ((zs.drop j).take m) := by
  have hl : ((zs.drop j).take m).length = m := by rw [List.length_take, List.length_drop]; omega
  obtain ⟨h0, ⟨h1, _⟩ | ⟨g', off', cap0, cur, hv, h1, h2, h3, h4, h5⟩⟩ := h
  · cases h1
  · simp only [Value.slice.injEq, Option.some.injEq, Addr.mk.injEq, and_true] at hv
    obtain ⟨⟨rfl, rfl⟩, _, rfl⟩ := hv
    refine ⟨by omega, .inr ⟨g, off + j, cap', cur, by rw [hl], h1, h2, by omega, h4, fun i hi => ?_⟩⟩
    rw [hl] at hi
    have := h5 (j + i) (by omega)
    rw [Nat.add_assoc, this]
    congr 2
    rw [List.getD_eq_getElem?_getD, List.getD_eq_getElem?_getD, List.getElem?_take, if_pos hi, List.getElem?_drop]
/-- The two answers, from the parts. -/
theorem core_two {w w1 w2 : World} {v1 v2 : Value} {z1 z2 : List Int} {q : Nat} (h1 : RowI w1 w.heap.size w1.heap.size v1 z1) (hb1 : Below w.heap.size w w1) (h2 : RowI w2 w1.heap.size w2.heap.size v2 z2) (hb2 : Below w1.heap.size (w1.drewN q) w2) :
    LwInts2 w z1 z2 (.returned (.tuple #[v1, v2])) w2 := by
  have hbq : Below w1.heap.size w1 w2 := (below_dN (Below.refl _ _) q).trans hb2
  have hs := hb1.size
  have hs2 := hbq.size
  exact ⟨v1, v2, _, _, _, _, rfl, h1.below hbq (Nat.le_refl _), h2, Nat.le_refl _, hs2, hs, Nat.le_refl _, .inl (Nat.le_refl _), hb1.trans (hbq.mono hs)⟩
set_option maxHeartbeats 3200000 in
theorem core_any (w : World) (v : Value) (zs : List Int) (h : ReadI w.heap.size w v zs) (hin : InR zs) (hl : zs.length ≤ 100000000) :
    Calls Try.prog 16 #[v] w (LwInts2 w (coreL zs).1 (coreL zs).2) := by
  have hred := reduce_any w v zs h hin (by omega)
  obtain ⟨C, hC⟩ : ∃ C, C = coreL zs := ⟨_, rfl⟩
  obtain ⟨x, hx⟩ : ∃ x, x = redL zs := ⟨_, rfl⟩
  have hcore : C = coreF x.length x [] := by rw [hC, hx]; rfl
  have hxl : x.length ≤ 100000000 := by rw [hx]; have := redL_length zs; omega
  have hxin : InR x := by rw [hx]; exact redL_in hin
  rw [← hx] at hred
  rw [← hC]
  obtain ⟨a0, n0, c0, hv⟩ := h.form
  subst hv
  replace h := hidI h
  replace hx := hidI hx
  replace hC := hidI hC
  go_enter Try.func16, Try.ntmps16
  go_wp2_with fail
  refine hred.mono ?_
  intro e w1 hr1
  obtain ⟨a, n, c, rfl, hrow1, hn, hb1⟩ := hr1.form
  have hs1 := hb1.size
  have hnc := hrow1.cap
  have hnl : n ≤ 100000000 := by omega
  clear hred hr1
  by_cases h0 : n = 0
  · subst h0
    have hx0 : x = [] := List.length_eq_zero_iff.1 (by omega)
    have hC0 : C = ([], []) := by rw [hcore, hx0]; rfl
    rw [hx0] at hrow1
    have hclone : ∀ q : Nat, Calls Try.prog 53 #[.slice a 0 c] (w1.drewN q) fun e w' => ∃ v2, e = .returned v2 ∧ LwInts2 w C.1 C.2 (.returned (.tuple #[.slice a 0 c, v2])) w' := by
      intro q
      refine (clone_any (w1.drewN q) _ [] (hrow1.read.below (below_dN (Below.refl _ _) q)) (by simp)).mono ?_
      rintro e w2 ⟨v2, rfl, h2, hb2⟩
      refine ⟨v2, rfl, ?_⟩
      rw [hC0]
      exact core_two hrow1 hb1 h2 hb2
    replace hclone := hidI hclone
    replace hrow1 := hidI hrow1
    replace hcore := hidI hcore
    replace hC0 := hidI hC0
    replace hx0 := hidI hx0
    replace hn := hidI hn
    go_wp2
    go_loopg [5] 0 (fun gg xv wr => Hid (xv = .slice a 0 c) ∧ ∃ q, wr = w1.drewN q)
    case atStart => exact ⟨hidI rfl, 0, rfl⟩
    case round =>
      obtain ⟨e1, q, rfl⟩ := hrel
      have e1' := e1.out
      subst e1'
      go_wp2
      go_quiet (fail)
      rename_i nq
      go_wp2_with fail
      refine (hclone.out _).mono ?_
      rintro e w2 ⟨v2, rfl, hr⟩
      replace hr := hidI hr
      clear hclone
      go_wp2
      go_ret2
      exact hr.out
  · obtain ⟨g, off, cap, he, hg1, hg2⟩ := hrow1.form (by omega)
    simp only [Value.slice.injEq] at he
    obtain ⟨rfl, hq9, rfl⟩ := he
    clear hq9
    have hclone : ∀ (j m c' o q : Nat), 2 * j + m = n → m ≤ c' → o = off + j → C = (cutJ x j, x.take j) → Calls Try.prog 53 #[.slice (some ⟨g, off, none⟩) j c] (w1.drewN q) fun e w' => ∃ v2, e = .returned v2 ∧ LwInts2 w C.1 C.2 (.returned (.tuple #[.slice (some ⟨g, o, none⟩) m c', v2])) w' := by
      intro j m c' o q h1 h2 h3 h4
      subst h3
      refine (clone_any (w1.drewN q) _ (x.take j) ((hrow1.read.first j (by omega)).below (below_dN (Below.refl _ _) q)) (by rw [List.length_take]; omega)).mono ?_
      rintro e w2 ⟨v2, rfl, h5, hb2⟩
      refine ⟨v2, rfl, ?_⟩
      rw [h4]
      have h6 := hrow1.part j m c' (by omega) h2
      have e1 : m = x.length - 2 * j := by omega
      have e2 : (x.drop j).take m = cutJ x j := by unfold cutJ; rw [← e1]
      rw [e2] at h6
      exact core_two h6 hb1 h5 hb2
    replace hclone := hidI hclone
    have hread := hidI hrow1.read
    replace hrow1 := hidI hrow1
    replace hcore := hidI hcore
    replace hn := hidI hn
    have hstart := hidI (show coreF (n - 0) (cutJ x 0) (x.take 0) = C by rw [cutJ_zero, hcore.out, hn.out]; rfl)
    go_wp2
    go_loopg [5] n (fun gg xv wr => ∃ j m c' o : Nat, gg = n - j ∧ 2 * j + m = n ∧ m ≤ c' ∧ xv = .slice (some ⟨g, o, none⟩) m c' ∧ Hid (o = off + j) ∧ Hid (coreF (n - j) (cutJ x j) (x.take j) = C) ∧ ∃ q, wr = w1.drewN q)
    case atStart => exact ⟨0, n, c, off, by omega, by omega, hnc, rfl, hidI rfl, hstart, 0, rfl⟩
    case round =>
      clear hstart
      obtain ⟨j, m, c', o, rfl, hjm, hmc, rfl, ho, hcf, q, rfl⟩ := hrel
      by_cases hm1 : m ≤ 1
      · have hno : sc (cutJ x j) = false := by
          unfold sc
          rw [cutJ_length, decide_eq_false_iff_not]
          have := hn.out
          omega
        have hfin : C = (cutJ x j, x.take j) := by rw [← hcf.out, coreF_no hno]
        have hm2 : ¬ (2 : Int) ≤ (m : Int) := by omega
        have hm3 : decide ((2 : Int) ≤ (m : Int)) = false := by simp; omega
        have hm4 : decide ((m : Int) ≥ 2) = false := by simp; omega
        have hsub : (n : Int) - (m : Int) = 2 * (j : Int) := by omega
        have hdv : (2 * (j : Int)).tdiv 2 = (j : Int) := by rw [Int.tdiv_eq_ediv_of_nonneg (by omega)]; omega
        have hjb : 2 * (j : Int) ≤ 100000000 := by omega
        have hdv2 : (2 * (j : Int)) / 2 = (j : Int) := by omega
        have hjc : (j : Int) ≤ (c : Int) := by omega
        have hcl := hidI (fun q => hclone.out j m c' o q hjm hmc ho.out hfin)
        replace hfin := hidI hfin
        go_wp2
        go_quiet (fail)
        rename_i nq
        go_wp2_with fail
        refine (hcl.out _).mono ?_
        rintro e w2 ⟨v2, rfl, hr⟩
        replace hr := hidI hr
        clear hclone hcl
        go_wp2
        go_ret2
        exact hr.out
      · obtain ⟨m, rfl⟩ : ∃ i, m = i + 1 := ⟨m - 1, by omega⟩
        have hxn := hn.out
        have hci : InR (cutJ x j) := fun y hy => hxin y (List.mem_of_mem_drop (List.mem_of_mem_take hy))
        have hlen : (cutJ x j).length = m + 1 := by rw [cutJ_length]; omega
        have hsc := sc_inv hci (by omega)
        have e0 := cutJ_getD x j 0 (by omega)
        have e1 := cutJ_getD x j m (by omega)
        rw [hlen, Nat.add_sub_cancel, e0, e1, Nat.add_zero] at hsc
        obtain ⟨a1, ha1⟩ : ∃ a1, a1 = x.getD j 0 := ⟨_, rfl⟩
        obtain ⟨b1, hb1e⟩ : ∃ b1, b1 = x.getD (j + m) 0 := ⟨_, rfl⟩
        have hra := hxin.getD j (by omega)
        have hrb := hxin.getD (j + m) (by omega)
        obtain ⟨g2, o2, hge, _, hca⟩ := hread.out.at_ j (by omega)
        cases hge
        obtain ⟨g3, o3, hge, _, hcb⟩ := hread.out.at_ (j + m) (by omega)
        cases hge
        rw [← ha1] at hca hsc hra
        rw [← hb1e] at hcb hsc hrb
        rw [← ho.out] at hca
        rw [← Nat.add_assoc, ← ho.out] at hcb
        obtain ⟨w0, hw0⟩ : ∃ w0, w0 = w1.drewN q := ⟨_, rfl⟩
        have hcell1 : w0.cell? ⟨g, o, none⟩ = some (.int .i64 a1) := by rw [hw0]; exact hca
        have hcell2 : w0.cell? ⟨g, o + m, none⟩ = some (.int .i64 b1) := by rw [hw0]; exact hcb
        have hm0 : (1 : Int) ≤ (m : Int) := by omega
        have hm2 : (2 : Int) ≤ (m : Int) + 1 := by omega
        have hm3 : decide ((2 : Int) ≤ (m : Int) + 1) = true := by simp; omega
        have hidx : ((m : Int) + 1 - 1) = (m : Int) := by omega
        have hmc2 : (m : Int) ≤ (c' : Int) := by omega
        have hcap2 : ¬ c' = 1 := by omega
        have hmb : (m : Int) ≤ 100000000 := by omega
        have hwm : IntKind.i64.wrap (m : Int) = (m : Int) := IntWalk.i64_in _ (by omega)
        obtain ⟨bb, hbb⟩ : ∃ bb, inv a1 b1 = bb := ⟨_, rfl⟩
        have hcall : ∀ k, Calls Try.prog 52 #[.int .i64 a1, .int .i64 b1] (w0.drewN k) fun e w' => e = .returned (.bool bb) ∧ w' = w0.drewN k := fun k => (areInv _ a1 b1 hra hrb bb hbb).mono fun e w' h => ⟨h.1, h.2.symm⟩
        rw [hbb] at hsc
        rw [← hw0]
        replace hw0 := hidI hw0
        replace ha1 := hidI ha1
        replace hb1e := hidI hb1e
        replace hbb := hidI hbb
        clear hca hcb hra hrb e0 e1
        cases bb with
        | true =>
          have hst := core_step hsc (by omega)
          rw [← hxn, hcf.out] at hst
          replace hst := hidI hst.symm
          replace hsc := hidI hsc
          clear hxn hlen
          have ho2 : Hid (o + 1 = off + (j + 1)) := hidI (by have := ho.out; omega)
          go_wp2
          go_quiet ((go_at_call 52; exact Calls.quiet_of_same (hcall _)))
          rename_i nq
          go_wp2
          go_roundg (n - (j + 1))
          case rel => exact ⟨j + 1, m - 1, c' - 1, o + 1, rfl, by omega, by omega, rfl, ho2, hst, _, by rw [hw0.out]; exact World.drewN_drewN ..⟩
          case measure => omega
        | false =>
          have hfin : C = (cutJ x j, x.take j) := by rw [← hcf.out, coreF_no hsc]
          have hcl : ∀ k : Nat, _ := fun k => hclone.out j (m + 1) c' o (q + k) hjm hmc ho.out hfin
          have hcl2 : ∀ k : Nat, Calls Try.prog 53 #[.slice (some ⟨g, off, none⟩) j c] (w0.drewN k) fun e w' => ∃ v2, e = .returned v2 ∧ LwInts2 w C.1 C.2 (.returned (.tuple #[.slice (some ⟨g, o, none⟩) (m + 1) c', v2])) w' := fun k => by
            have := hcl k
            rw [hw0.out, World.drewN_drewN]
            exact this
          replace hcl2 := hidI hcl2
          have hsub : (n : Int) - ((m : Int) + 1) = 2 * (j : Int) := by omega
          have hdv : (2 * (j : Int)).tdiv 2 = (j : Int) := by rw [Int.tdiv_eq_ediv_of_nonneg (by omega)]; omega
          have hjb : 2 * (j : Int) ≤ 100000000 := by omega
          have hjc : (j : Int) ≤ (c : Int) := by omega
          replace hfin := hidI hfin
          replace hsc := hidI hsc
          clear hxn hlen hcl
          go_wp2
          go_quiet ((go_at_call 52; exact Calls.quiet_of_same (hcall _)))
          rename_i nq
          clear hcall
          go_wp2_with fail
          refine (hcl2.out _).mono ?_
          rintro e w2 ⟨v2, rfl, hr⟩
          replace hr := hidI hr
          clear hclone hcl2
          go_wp2
          go_ret2
          exact hr.out
theorem form_any (w : World) (v : Value) (zs : List Int) (h : ReadI w.heap.size w v zs) (hin : InR zs) (hl : zs.length ≤ 100000000) :
    Calls Try.prog 27 #[v] w (IntsRet w (lrL (coreL zs).1).1) := by
  have hc := core_any w v zs h hin hl
  have hx := (coreL_length zs).1
  have hci := (coreL_in hin).1
  obtain ⟨C, hC⟩ : ∃ C, C = coreL zs := ⟨_, rfl⟩
  rw [← hC] at hc hx hci ⊢
  obtain ⟨L, hL⟩ : ∃ L, L = lrL C.1 := ⟨_, rfl⟩
  rw [← hL]
  replace hL := hidI hL
  obtain ⟨a0, n0, c0, hv⟩ := h.form
  subst hv
  replace h := hidI h
  replace hC := hidI hC
  go_enter Try.func27, Try.ntmps27
  go_wp2_with fail
  refine hc.mono ?_
  rintro e w1 ⟨v1, v2, l1, h1, l2, h2, rfl, hr1, hr2, k1, k2, k3, k4, k5, hb1⟩
  have hlr := least_any w1 v1 C.1 (hr1.read.mono k2) hci (by omega)
  rw [← hL.out] at hlr
  clear hc hr1 hr2
  go_wp2_with fail
  refine hlr.mono ?_
  rintro e w2 ⟨v3, rfl, hrow, hb2⟩
  have hs := hb1.size
  have hr : IntsRet w L.1 (.returned v3) w2 := ⟨_, rfl, hrow.wide hs (Nat.le_refl _), hb1.trans (hb2.mono hs)⟩
  replace hr := hidI hr
  clear hlr hrow
  go_wp2
  go_ret
  exact hr.out
theorem clen_any (w : World) (v : Value) (zs : List Int) (h : ReadI w.heap.size w v zs) (hin : InR zs) (hl : zs.length ≤ 100000000) :
    Calls Try.prog 22 #[v] w (LwInt w ((coreL zs).1.length : Int)) := by
  have hc := core_any w v zs h hin hl
  have hx := (coreL_length zs).1
  obtain ⟨C, hC⟩ : ∃ C, C = coreL zs := ⟨_, rfl⟩
  rw [← hC] at hc hx ⊢
  obtain ⟨a0, n0, c0, hv⟩ := h.form
  subst hv
  replace h := hidI h
  replace hC := hidI hC
  go_enter Try.func22, Try.ntmps22
  go_wp2_with fail
  refine hc.mono ?_
  rintro e w1 ⟨v1, v2, l1, h1, l2, h2, rfl, hr1, hr2, k1, k2, k3, k4, k5, hb1⟩
  obtain ⟨a1, n1, c1, hv⟩ := hr1.read.form
  subst hv
  have hn1 := hr1.read.len
  replace hn1 := hidI hn1
  clear hc hr1 hr2
  go_wp2
  go_ret
  exact ⟨ret_i (by rw [hn1.out]), hb1⟩
end Go.Proofs.Ytcjkgknmpgehbaa
