/- Cyclic words, the model: CyclicCore, CyclicForm, CyclicLength. -/
import Derived.Test.YtcjkgknmpgehbaaWY2
import Derived.Deep.LoopGhost
namespace Go.Proofs.Ytcjkgknmpgehbaa
open Go.RowKit
set_option linter.unusedVariables false

theorem ReadI.drew' {w : World} {v : Value} {zs : List Int} (h : ReadI w.heap.size w v zs) (n : Nat) : ReadI w.heap.size ((w.drewN n).alloc (.cells #[] 3)) v zs :=
  h.below ((below_dN (Below.refl w.heap.size w) n).alloc (Nat.le_refl _) _)
/-- The two answers of the core, out of the parts at the loop's end. -/
theorem core_end {w wr w' : World} {lo : Nat} {v1 v2 : Value} {z1 z2 : List Int} (h1 : OwnsI w' wr.heap.size v1 z1) (h2 : OwnsI wr lo v2 z2) (hlo : w.heap.size ≤ lo) (hb : Below w.heap.size w wr) (hb' : Below wr.heap.size wr w') (hl1 : z1.length ≤ 100000000) (hl2 : z2.length ≤ 100000000) :
    Ints2Ret w z1 z2 (.returned (.tuple #[v1, v2])) w' :=
  ⟨v1, v2, rfl, (h1.row (by omega)).wide hb.size (Nat.le_refl _), ((h2.row (by omega)).below hb' (Nat.le_refl _)).wide hlo hb'.size, hb.trans (hb'.mono hb.size)⟩
theorem cell_of_read {B : Nat} {w : World} {g n cap : Nat} {zs : List Int} (h : ReadI B w (.slice (some ⟨g, 0, none⟩) n cap) zs) (i : Nat) (hi : i < zs.length) : w.cell? ⟨g, i, none⟩ = some (.int .i64 (zs.getD i 0)) := by
  obtain ⟨b, off, e, _, hc⟩ := h.at_ i hi
  cases e
  simpa using hc
set_option maxHeartbeats 3200000 in
theorem specCore (w : World) (v : Value) (zs : List Int) (h : ReadI w.heap.size w v zs) (hl : zs.length ≤ 100000000) :
    Calls Try.prog 17 #[v] w (Ints2Ret w (coreL zs).1 (coreL zs).2) := by
  have hred := specRed_own w v zs h hl
  obtain ⟨x, hx⟩ : ∃ x, x = redL zs := ⟨_, rfl⟩
  have hcore : coreL zs = coreF x.length x [] := by rw [hx]; rfl
  have hxl : x.length ≤ 100000000 := by rw [hx]; have := redL_length zs; omega
  rw [← hx] at hred
  rw [hcore]
  obtain ⟨a0, n0, c0, hv⟩ : ∃ a n c, v = .slice a n c := by
    obtain ⟨_, a, cap, hv, _⟩ := h
    exact ⟨a, _, cap, hv⟩
  subst hv
  replace h := hidI h
  replace hx := hidI hx
  replace hcore := hidI hcore
  go_enter Try.func17, Try.ntmps17
  go_wp2_with fail
  refine hred.mono ?_
  rintro e w1 ⟨v1, rfl, hown1, hb1⟩
  have hs1 := hb1.size
  have hread1 := hidI ((hown1.row (by omega)).read)
  by_cases hn1 : x.length ≤ 0
  · have hx0 : x = [] := List.length_eq_zero_iff.1 (by omega)
    obtain ⟨a1, m1, c1, hv1⟩ : ∃ a m c, v1 = .slice a m c := by
      obtain ⟨a, c, hv⟩ := hown1.form_any
      exact ⟨a, _, c, hv⟩
    subst hv1
    have hm0 : m1 = 0 := by
      have h1 := hown1.1
      obtain ⟨_, a', c', hv', _⟩ := hread1.out
      simp only [Value.slice.injEq] at hv'
      rw [hx0] at hv'
      simpa using hv'.2.1
    subst hm0
    have hlitp := hidI (OwnsI.lit w1)
    have hba := (Below.refl w1.heap.size w1).alloc (Nat.le_refl _) (.cells #[] 3)
    have hsz1 : (w1.alloc (.cells #[] 3)).heap.size = w1.heap.size + 1 := by simp
    rw [hx0] at hread1
    have hread2 := hidI (hread1.out.below hba)
    have hr0 : ∀ nq v' w', OwnsI w' (w1.heap.size + 1) v' ([] ++ []) → Below (w1.heap.size + 1) (((w1.alloc (.cells #[] 3)).drewN nq).alloc (.cells #[] 3)) w' → Ints2Ret w (coreF x.length x []).1 (coreF x.length x []).2 (.returned (.tuple #[v', .slice (some ⟨w1.heap.size, 0, none⟩) 0 0])) w' := by
      intro nq v' w' ho hbb
      have e : coreF x.length x [] = ([], []) := by rw [hx0]; rfl
      rw [e]
      refine core_end (wr := (w1.alloc (.cells #[] 3)).drewN nq) (by rw [← hsz1] at ho; simpa using ho) (hlitp.out.drewN nq) hs1 (hb1.trans ((below_dN hba nq).mono hs1)) ?_ (by simp) (by simp)
      have hbb2 : Below ((w1.alloc (.cells #[] 3)).drewN nq).heap.size (((w1.alloc (.cells #[] 3)).drewN nq).alloc (.cells #[] 3)) w' := by
        rw [← hsz1] at hbb
        exact hbb
      exact ((Below.refl _ _).alloc (Nat.le_refl _) (.cells #[] 3)).trans hbb2
    replace hr0 := hidI hr0
    replace hx0 := hidI hx0
    replace hread1 := hidI hread1
    replace hown1 := hidI hown1
    clear hred hn1 hlitp
    go_wp2
    go_loopg [4, 5] 0 (fun gg xv pv wr => Hid (xv = .slice a1 0 c1) ∧ Hid (pv = .slice (some ⟨w1.heap.size, 0, none⟩) 0 0) ∧ Hid (wr = w1.alloc (.cells #[] 3)))
    case atStart => exact ⟨hidI rfl, hidI rfl, hidI rfl⟩
    case round =>
      obtain ⟨e1, e2, e3⟩ := hrel
      have e1' := e1.out
      have e2' := e2.out
      have e3' := e3.out
      subst e1'
      subst e2'
      subst e3'
      go_wp2
      go_quiet (fail)
      rename_i nq
      have hlit2 : Hid (OwnsI (((w1.alloc (.cells #[] 3)).drewN nq).alloc (.cells #[] 3)) (w1.heap.size + 1) (.slice (some ⟨w1.heap.size + 1, 0, none⟩) 0 0) []) := hidI (by
        have := OwnsI.lit ((w1.alloc (.cells #[] 3)).drewN nq)
        simpa using this)
      have hx2 : Hid (ReadI (w1.heap.size + 1) (((w1.alloc (.cells #[] 3)).drewN nq).alloc (.cells #[] 3)) (.slice a1 0 c1) []) := hidI (by
        have := (hread2.out.mono (show w1.heap.size ≤ w1.heap.size + 1 by omega)).below ((below_dN (Below.refl (w1.heap.size + 1) (w1.alloc (.cells #[] 3))) nq).alloc (by simp) (.cells #[] 3))
        exact this)
      have hl3 : ([] : List Int).length + ([] : List Int).length ≤ 1000000000 := by simp
      have hr1 := hidI (hr0.out nq)
      go_wp2_with (at_builtin; go_must (refine wpList_pushAllI rfl _ _ rfl (w1.heap.size + 1) _ _ [] [] (w1.heap.size + 1) rfl rfl (by exact hlit2.out) (by exact hx2.out) hl3 (by simp) ?_))
      intro v' w' hown' hb'
      have hr := hidI (hr1.out v' w' hown' hb')
      clear hown' hb' hlit2 hx2 hr1 hr0
      go_wp2
      go_ret2
      exact hr.out
  · obtain ⟨g, cap, rfl, hg1, hg2, hcap⟩ := hown1.form (by omega)
    obtain ⟨n, hn⟩ : ∃ n, n = x.length := ⟨_, rfl⟩
    rw [← hn] at hxl hread1 hcap ⊢
    have hlit := hidI (OwnsI.lit w1)
    have hba := (Below.refl w1.heap.size w1).alloc (Nat.le_refl _) (.cells #[] 3)
    have hn0 : 0 < n := by omega
    replace hn := hidI hn
    replace hown1 := hidI hown1
    clear hred hn1
    go_wp2
    go_loopg [4, 5] n (fun gg xv pv wr => ∃ j m c : Nat, gg = n - j ∧ 2 * j + m = n ∧ m ≤ c ∧ xv = .slice (some ⟨g, j, none⟩) m c ∧ Hid (OwnsI wr w1.heap.size pv (x.take j)) ∧ Hid (coreF (n - j) (cutJ x j) (x.take j) = coreF n x []) ∧ Below w1.heap.size w1 wr)
    case atStart => exact ⟨0, n, cap, rfl, by omega, hcap, rfl, hlit, hidI (by rw [cutJ_zero]; rfl), hba⟩
    case round =>
      clear hlit hba hcap
      obtain ⟨j, m, c, rfl, hjm, hmc, rfl, hown, hcf, hb⟩ := hrel
      have hrd := hread1.out.below hb
      have hcut : ReadI wr.heap.size wr (.slice (some ⟨g, j, none⟩) m c) (cutJ x j) := by
        have h1 := (hrd.mono hb.size).part hn.out j m c (by have := hn.out; omega) hmc
        rw [Nat.zero_add] at h1
        have e : n - 2 * j = m := by omega
        unfold cutJ
        rw [← hn.out, e]
        exact h1
      by_cases hm1 : m ≤ 1
      · have hm2 : ¬ (1 : Int) < (m : Int) := by omega
        have hm3 : decide ((1 : Int) < (m : Int)) = false := by simp; omega
        have hno : sc (cutJ x j) = false := by
          unfold sc
          rw [cutJ_length, decide_eq_false_iff_not]
          have := hn.out
          omega
        have hfin : coreF x.length x [] = (cutJ x j, x.take j) := by rw [← hn.out, ← hcf.out, coreF_no hno]
        go_wp2
        go_quiet (fail)
        rename_i nq
        have hb2 := below_dN hb nq
        have hlit2 := hidI (OwnsI.lit (wr.drewN nq))
        have hx2 := hidI (hcut.drew' nq)
        have hl3 : ([] : List Int).length + (cutJ x j).length ≤ 1000000000 := by rw [cutJ_length, List.length_nil]; have := hn.out; omega
        have hr0 : ∀ pvv, OwnsI wr w1.heap.size pvv (x.take j) → ∀ v' w', OwnsI w' wr.heap.size v' ([] ++ cutJ x j) → Below wr.heap.size ((wr.drewN nq).alloc (.cells #[] 3)) w' → Ints2Ret w (coreF x.length x []).1 (coreF x.length x []).2 (.returned (.tuple #[v', pvv])) w' := by
          intro pvv hpv v' w' ho hbb
          rw [hfin]
          refine core_end (wr := wr.drewN nq) (by simpa using ho) (hpv.drewN nq) hs1 (hb1.trans (hb2.mono hs1)) (((Below.refl _ _).alloc (Nat.le_refl _) _).trans hbb) (by rw [cutJ_length]; have := hn.out; omega) (by rw [List.length_take]; omega)
        replace hr0 := hidI hr0
        replace hno := hidI hno
        replace hfin := hidI hfin
        replace hcut := hidI hcut
        replace hrd := hidI hrd
        replace hown := hidI hown
        clear hb hb2
        go_wp2_with (at_builtin; go_must (refine wpList_pushAllI rfl _ _ rfl wr.heap.size _ _ [] (cutJ x j) wr.heap.size rfl rfl (by exact hlit2.out) (by exact hx2.out) hl3 (by simp) ?_))
        intro v' w' hown' hb'
        have hr := hidI (hr0.out _ hown.out.out v' w' hown' hb')
        clear hown' hb' hlit2 hx2 hr0
        go_wp2
        go_ret2
        exact hr.out
      · obtain ⟨m, rfl⟩ : ∃ i, m = i + 1 := ⟨m - 1, by omega⟩
        have hxn := hn.out
        have ca := cell_of_read hrd j (by omega)
        have cl := cell_of_read hrd (j + m) (by omega)
        obtain ⟨a, ha⟩ : ∃ a, a = x.getD j 0 := ⟨_, rfl⟩
        obtain ⟨l, hll⟩ : ∃ l, l = x.getD (j + m) 0 := ⟨_, rfl⟩
        rw [← ha] at ca
        rw [← hll] at cl
        have hsc : sc (cutJ x j) = decide (a = ng l ∧ a ≠ ng a) := by
          rw [sc_cut, decide_eq_decide, show x.length - 1 - j = j + m by omega, ← ha, ← hll]
          exact ⟨fun h => h.2, fun h => ⟨by omega, h⟩⟩
        have hm2 : (1 : Int) < (m : Int) + 1 := by omega
        have hm3 : decide ((1 : Int) < (m : Int) + 1) = true := by simp; omega
        have hidx : ((m : Int) + 1 - 1) = (m : Int) := by omega
        by_cases h1 : a = ng l
        · have f1 : (a == wrap64 (-l)) = true := by rw [beq_iff_eq]; exact h1
          by_cases h2 : a = ng a
          · have f2 : (a != wrap64 (-a)) = false := by rw [bne_eq_false_iff_eq]; exact h2
            have hno : sc (cutJ x j) = false := by rw [hsc, decide_eq_false_iff_not]; exact fun h => h.2 h2
            replace ha := hidI ha
            replace hll := hidI hll
            clear hsc h1 h2 hxn
            have hfin : coreF x.length x [] = (cutJ x j, x.take j) := by rw [← hn.out, ← hcf.out, coreF_no hno]
            go_wp2
            go_quiet (fail)
            rename_i nq
            have hb2 := below_dN hb nq
            have hlit2 := hidI (OwnsI.lit (wr.drewN nq))
            have hx2 := hidI (hcut.drew' nq)
            have hl3 : ([] : List Int).length + (cutJ x j).length ≤ 1000000000 := by rw [cutJ_length, List.length_nil]; have := hn.out; omega
            have hr0 : ∀ pvv, OwnsI wr w1.heap.size pvv (x.take j) → ∀ v' w', OwnsI w' wr.heap.size v' ([] ++ cutJ x j) → Below wr.heap.size ((wr.drewN nq).alloc (.cells #[] 3)) w' → Ints2Ret w (coreF x.length x []).1 (coreF x.length x []).2 (.returned (.tuple #[v', pvv])) w' := by
              intro pvv hpv v' w' ho hbb
              rw [hfin]
              refine core_end (wr := wr.drewN nq) (by simpa using ho) (hpv.drewN nq) hs1 (hb1.trans (hb2.mono hs1)) (((Below.refl _ _).alloc (Nat.le_refl _) _).trans hbb) (by rw [cutJ_length]; have := hn.out; omega) (by rw [List.length_take]; omega)
            replace hr0 := hidI hr0
            replace hno := hidI hno
            replace hfin := hidI hfin
            replace hcut := hidI hcut
            replace hrd := hidI hrd
            replace hown := hidI hown
            clear hb hb2
            go_wp2_with (at_builtin; go_must (refine wpList_pushAllI rfl _ _ rfl wr.heap.size _ _ [] (cutJ x j) wr.heap.size rfl rfl (by exact hlit2.out) (by exact hx2.out) hl3 (by simp) ?_))
            intro v' w' hown' hb'
            have hr := hidI (hr0.out _ hown.out.out v' w' hown' hb')
            clear hown' hb' hlit2 hx2 hr0
            go_wp2
            go_ret2
            exact hr.out
          · have f2 : (a != wrap64 (-a)) = true := by rw [bne_iff_ne]; exact h2
            have hyes : sc (cutJ x j) = true := by rw [hsc, decide_eq_true_eq]; exact ⟨h1, h2⟩
            have hst := core_step hyes (by omega)
            rw [← hxn, hcf.out] at hst
            have htk := take_snoc_getD (x := x) (j := j) (by omega)
            rw [← ha] at htk
            have hcap2 : ¬ c = 1 := by omega
            have hL : (x.take j).length ≤ 1000000000 := by rw [List.length_take]; omega
            replace hst := hidI hst.symm
            replace htk := hidI htk
            replace ha := hidI ha
            replace hll := hidI hll
            replace hrd := hidI hrd
            replace hcut := hidI hcut
            clear hsc hyes h1 h2 hxn
            go_wp2
            go_quiet (fail)
            rename_i nq
            have hb2 := below_dN hb nq
            have hown2 := hidI (hown.out.drewN nq)
            have ca2 : (wr.drewN nq).cell? ⟨g, j, none⟩ = some (.int .i64 a) := ca
            have hsz2 : w1.heap.size ≤ wr.heap.size := hb.size
            replace hown := hidI hown
            clear hb ca cl
            go_wp2_with (at_builtin; go_must (refine wpList_pushI rfl _ _ rfl w1.heap.size _ (x.take j) a rfl rfl (by exact hown2.out) hL hb2.size ?_))
            intro v' w' hown' hb'
            have hown3 : Hid (OwnsI w' w1.heap.size v' (x.take (j + 1))) := hidI (by rw [htk.out]; exact hown')
            have hb3 := hb2.trans hb'
            have hmc2 : (m : Int) ≤ (c : Int) := by omega
            have hm0 : (1 : Int) ≤ (m : Int) := by omega
            clear hown' hb' hb2 hown2 ca2
            go_wp2
            go_roundg (n - (j + 1))
            case rel => exact ⟨j + 1, m - 1, c - 1, rfl, by omega, by omega, rfl, hown3, hst, hb3⟩
            case measure => omega
        · have f1 : (a == wrap64 (-l)) = false := by rw [beq_eq_false_iff_ne]; exact h1
          have hno : sc (cutJ x j) = false := by rw [hsc, decide_eq_false_iff_not]; exact fun h => h1 h.1
          replace ha := hidI ha
          replace hll := hidI hll
          clear hsc h1 hxn
          have hfin : coreF x.length x [] = (cutJ x j, x.take j) := by rw [← hn.out, ← hcf.out, coreF_no hno]
          go_wp2
          go_quiet (fail)
          rename_i nq
          have hb2 := below_dN hb nq
          have hlit2 := hidI (OwnsI.lit (wr.drewN nq))
          have hx2 := hidI (hcut.drew' nq)
          have hl3 : ([] : List Int).length + (cutJ x j).length ≤ 1000000000 := by rw [cutJ_length, List.length_nil]; have := hn.out; omega
          have hr0 : ∀ pvv, OwnsI wr w1.heap.size pvv (x.take j) → ∀ v' w', OwnsI w' wr.heap.size v' ([] ++ cutJ x j) → Below wr.heap.size ((wr.drewN nq).alloc (.cells #[] 3)) w' → Ints2Ret w (coreF x.length x []).1 (coreF x.length x []).2 (.returned (.tuple #[v', pvv])) w' := by
            intro pvv hpv v' w' ho hbb
            rw [hfin]
            refine core_end (wr := wr.drewN nq) (by simpa using ho) (hpv.drewN nq) hs1 (hb1.trans (hb2.mono hs1)) (((Below.refl _ _).alloc (Nat.le_refl _) _).trans hbb) (by rw [cutJ_length]; have := hn.out; omega) (by rw [List.length_take]; omega)
          replace hr0 := hidI hr0
          replace hno := hidI hno
          replace hfin := hidI hfin
          replace hcut := hidI hcut
          replace hrd := hidI hrd
          replace hown := hidI hown
          clear hb hb2
          go_wp2_with (at_builtin; go_must (refine wpList_pushAllI rfl _ _ rfl wr.heap.size _ _ [] (cutJ x j) wr.heap.size rfl rfl (by exact hlit2.out) (by exact hx2.out) hl3 (by simp) ?_))
          intro v' w' hown' hb'
          have hr := hidI (hr0.out _ hown.out.out v' w' hown' hb')
          clear hown' hb' hlit2 hx2 hr0
          go_wp2
          go_ret2
          exact hr.out
theorem Ints2Ret.first {w w' : World} {z1 z2 : List Int} {e : Ending} (h : Ints2Ret w z1 z2 e w') : ∃ a1 m1 c1 v2, e = .returned (.tuple #[.slice a1 m1 c1, v2]) ∧ RowI w' w.heap.size w'.heap.size (.slice a1 m1 c1) z1 ∧ RowI w' w.heap.size w'.heap.size v2 z2 ∧ Below w.heap.size w w' := by
  obtain ⟨v1, v2, he, h1, h2, h3⟩ := h
  obtain ⟨_, a, cap, hv, _⟩ := h1.read
  subst hv
  exact ⟨_, _, _, _, he, h1, h2, h3⟩
set_option maxHeartbeats 800000 in
theorem specForm (w : World) (v : Value) (zs : List Int) (h : ReadI w.heap.size w v zs) (hl : zs.length ≤ 100000000) :
    Calls Try.prog 34 #[v] w (IntsRet w (lrL (coreL zs).1).1) := by
  have hcore := specCore w v zs h hl
  have hll := (coreL_length zs).1
  obtain ⟨c, hc⟩ : ∃ c, c = (coreL zs).1 := ⟨_, rfl⟩
  rw [← hc] at hcore hll ⊢
  replace h := hidI h
  replace hc := hidI hc
  go_enter Try.func34, Try.ntmps34
  go_wp2_with fail
  refine hcore.mono ?_
  intro e w1 hr1
  obtain ⟨a1, m1, c1, v2, rfl, h1, h2, hb1⟩ := hr1.first
  have hlr := specLR w1 _ c h1.read (by omega)
  have hs1 := hb1.size
  replace h1 := hidI h1
  replace h2 := hidI h2
  clear hr1 hcore
  go_wp2_with fail
  refine hlr.mono ?_
  rintro e w2 ⟨v3, rfl, h3, hb2⟩
  have hr : IntsRet w (lrL c).1 (.returned v3) w2 := ⟨v3, rfl, h3.wide hs1 (Nat.le_refl _), hb1.trans (hb2.mono hs1)⟩
  replace hr := hidI hr
  clear h3 hb2 hlr
  go_wp2
  go_ret
  exact hr.out
/-- What a function that hands back an int leaves, blocks of its own besides. -/
def IntBRet (w : World) (n : Int) (e : Ending) (w' : World) : Prop := e = .returned (.int .i64 n) ∧ Below w.heap.size w w'
def BoolBRet (w : World) (b : Bool) (e : Ending) (w' : World) : Prop := e = .returned (.bool b) ∧ Below w.heap.size w w'
set_option maxHeartbeats 800000 in
theorem specCLen (w : World) (v : Value) (zs : List Int) (h : ReadI w.heap.size w v zs) (hl : zs.length ≤ 100000000) :
    Calls Try.prog 48 #[v] w (IntBRet w (coreL zs).1.length) := by
  have hcore := specCore w v zs h hl
  obtain ⟨c, hc⟩ : ∃ c, c = (coreL zs).1 := ⟨_, rfl⟩
  rw [← hc] at hcore ⊢
  obtain ⟨n, hn⟩ : ∃ n, n = c.length := ⟨_, rfl⟩
  rw [← hn]
  replace h := hidI h
  replace hc := hidI hc
  go_enter Try.func48, Try.ntmps48
  go_wp2_with fail
  refine hcore.mono ?_
  intro e w1 hr1
  obtain ⟨a1, m1, c1, v2, rfl, h1, h2, hb1⟩ := hr1.first
  have hm : m1 = n := by
    obtain ⟨_, a', c', hv', _⟩ := h1.read
    simp only [Value.slice.injEq] at hv'
    omega
  subst hm
  replace hn := hidI hn
  clear hr1 hcore h1 h2
  go_wp2
  go_ret
  exact ⟨rfl, hb1⟩
end Go.Proofs.Ytcjkgknmpgehbaa
