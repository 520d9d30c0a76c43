/- Cyclic words, the model: RotateWord, LeastRotation. -/
import Derived.Test.YtcjkgknmpgehbaaMY
import Derived.Test.YtcjkgknmpgehbaaWS4
import Derived.IntWalk
namespace Go.Proofs.Ytcjkgknmpgehbaa
open Go.RowKit
set_option linter.unusedVariables false

set_option maxHeartbeats 1600000 in
theorem specRot_own (w : World) (v : Value) (zs : List Int) (k : Int) (h : ReadI w.heap.size w v zs) (hl : zs.length ≤ 100000000) (hk1 : -9223372036854775808 ≤ k) (hk2 : k ≤ 9223372036854775807) :
    Calls Try.prog 33 #[v, .int .i64 k] w (OwnRet w (rotL zs k)) := by
  have hread := h
  obtain ⟨_, a, cap, rfl, hq1, hq2⟩ := h
  clear hq1 hq2
  obtain ⟨n, hn⟩ : ∃ n, n = zs.length := ⟨_, rfl⟩
  rw [← hn] at hl hread ⊢
  have hown0 := hidI (OwnsI.lit w)
  have hb0 := (Below.refl w.heap.size w).alloc (Nat.le_refl _) (.cells #[] 3)
  replace hn := hidI hn
  replace hread := hidI hread
  go_enter Try.func33, Try.ntmps33
  go_wp2
  go_loopw [5, 6] (fun vv i wr => ∃ j : Nat, j ≤ n ∧ i = .int .i64 j ∧ Hid (OwnsI wr w.heap.size vv ((rotL zs k).take j)) ∧ Below w.heap.size w wr) (fun _ i _ => n - (intOf i).toNat)
  case atStart => exact ⟨0, Nat.zero_le _, rfl, hown0, hb0⟩
  case round =>
    clear hown0 hb0
    obtain ⟨j, hj, rfl, hown, hb⟩ := hrel
    by_cases hlt : j < n
    · obtain ⟨hi0, hi1, hi2, hi3, hi4, hi5, hi6⟩ := rot_index (k := k) hlt
      have hst := rotL_step (w := zs) (k := k) (i := j) (by have := hn.out; omega)
      rw [← hn.out] at hst
      obtain ⟨t, ht⟩ : ∃ t, t = k.tmod (n : Int) := ⟨_, rfl⟩
      rw [← ht] at hi0 hi1 hi2 hi3 hi4
      obtain ⟨u, hu⟩ : ∃ u, u = ((j : Int) + t).tmod (n : Int) := ⟨_, rfl⟩
      rw [← hu] at hi0 hi3 hi4
      obtain ⟨m, hm⟩ := Int.eq_ofNat_of_zero_le hi5
      rw [hm] at hst hi0 hi6
      have hmn : m < n := by omega
      rw [show ((m : Int)).toNat = m from rfl] at hst
      obtain ⟨b, off, rfl, hB, hcell⟩ := (hread.out.below hb).at_ m (by have := hn.out; omega)
      obtain ⟨z, hz⟩ : ∃ z, z = zs.getD m 0 := ⟨_, rfl⟩
      rw [← hz] at hcell hst
      obtain ⟨L, hL⟩ : ∃ L, L = (rotL zs k).take j := ⟨_, rfl⟩
      have hLl : L.length ≤ 1000000000 := by rw [hL, List.length_take]; omega
      rw [← hL] at hst hown
      have hlt2 : (j : Int) < (n : Int) := by omega
      have hn0 : ((n : Int) == 0) = false := by rw [beq_eq_false_iff_ne]; omega
      have hn00 : ¬ (n : Int) = 0 := by omega
      have ht2 : k.tmod (n : Int) = t := ht.symm
      have hu2 : ((j : Int) + t).tmod (n : Int) = u := hu.symm
      have hi0' : (u + (n : Int)) % (n : Int) = (m : Int) := by rw [← hi0, Int.tmod_eq_emod_of_nonneg (by omega)]
      have hun : 0 ≤ u + (n : Int) := by omega
      have hm2 : (m : Int) < (n : Int) := by omega
      replace hst := hidI hst
      replace hz := hidI hz
      replace hL := hidI hL
      clear ht hu hm
      go_wp2_with (at_builtin; go_must (refine wpList_pushI rfl _ _ rfl w.heap.size _ L z rfl rfl (by exact hown.out) hLl hb.size ?_))
      intro v' w' hown' hb'
      have hown2 : Hid (OwnsI w' w.heap.size v' ((rotL zs k).take (j + 1))) := hidI (by rw [hst.out]; exact hown')
      have hb2 := hb.trans hb'
      clear hown' hb' hown hb
      clear ht2 hu2 hi0 hi0'
      go_wp2
      go_roundw
      case rel => exact ⟨j + 1, by omega, by go_num, hown2, hb2⟩
      case measure => simp [intOf]; omega
    · obtain rfl : j = n := by omega
      have htk : (rotL zs k).take j = rotL zs k := List.take_of_length_le (by rw [rotL_length]; have := hn.out; omega)
      rw [htk] at hown
      replace htk := hidI htk
      go_wp2
      go_ret
      exact ownRet_mk hown.out hb (Nat.le_refl _)
theorem specRot (w : World) (v : Value) (zs : List Int) (k : Int) (h : ReadI w.heap.size w v zs) (hl : zs.length ≤ 100000000) (hk1 : -9223372036854775808 ≤ k) (hk2 : k ≤ 9223372036854775807) :
    Calls Try.prog 33 #[v, .int .i64 k] w (IntsRet w (rotL zs k)) :=
  (specRot_own w v zs k h hl hk1 hk2).mono fun e w' ⟨v', he, ho, hb⟩ => by
    subst he
    exact intsRet_owns ho hb (Nat.le_refl _) (by rw [rotL_length]; omega)
/-- What a function that hands back a slice of ints and an int leaves. -/
def IntsIntRet (w : World) (zs : List Int) (n : Int) (e : Ending) (w' : World) : Prop :=
  ∃ v, e = .returned (.tuple #[v, .int .i64 n]) ∧ RowI w' w.heap.size w'.heap.size v zs ∧ Below w.heap.size w w'
set_option maxHeartbeats 1600000 in
theorem specLR (w : World) (v : Value) (zs : List Int) (h : ReadI w.heap.size w v zs) (hl : zs.length ≤ 100000000) :
    Calls Try.prog 31 #[v] w (IntsIntRet w (lrL zs).1 (lrL zs).2) := by
  have hread := h
  obtain ⟨_, a, cap, rfl, hq1, hq2⟩ := h
  clear hq1 hq2
  obtain ⟨n, hn⟩ : ∃ n, n = zs.length := ⟨_, rfl⟩
  rw [← hn] at hl hread ⊢
  have hlit := hidI (OwnsI.lit w)
  have hb0 := (Below.refl w.heap.size w).alloc (Nat.le_refl _) (.cells #[] 3)
  have hx := hidI (hread.below hb0)
  have hl3 : ([] : List Int).length + zs.length ≤ 1000000000 := by simp; omega
  replace hn := hidI hn
  replace hread := hidI hread
  go_enter Try.func31, Try.ntmps31
  go_wp2_with (at_builtin; go_must (refine wpList_pushAllI rfl _ _ rfl w.heap.size _ _ [] zs w.heap.size rfl rfl (by exact hlit.out) (by exact hx.out) hl3 (by simp) ?_))
  intro v1 w1 hown1 hb1'
  have hb1 := hb0.trans hb1'
  have hrow1 : Hid (RowI w1 w.heap.size w1.heap.size v1 zs) := hidI (OwnsI.row (by simpa using hown1) (by have := hn.out; omega))
  clear hown1 hb1' hlit hx hb0
  go_wp2
  go_loopw [4, 5, 6, 7] (fun vv at_ i _ wr => ∃ j : Nat, 1 ≤ j ∧ (j ≤ n ∨ j = 1) ∧ i = .int .i64 j ∧ Hid (at_ = .int .i64 (lrG zs (j - 1)).2) ∧ Hid (RowI wr w.heap.size wr.heap.size vv (lrG zs (j - 1)).1) ∧ Below w.heap.size w wr) (fun _ _ i _ _ => n - (intOf i).toNat)
  case atStart => exact ⟨1, Nat.le_refl _, .inr rfl, rfl, hidI rfl, hrow1, hb1⟩
  case round =>
    clear hrow1 hb1
    obtain ⟨j, hj1, hj2, rfl, hat, hrow, hb⟩ := hrel
    obtain ⟨i, rfl⟩ : ∃ i, j = i + 1 := ⟨j - 1, by omega⟩
    rw [Nat.add_sub_cancel] at hat hrow
    have hat' := hat.out
    subst hat'
    by_cases hlt : i + 1 < n
    · have hrot := specRot wr _ zs ((i : Int) + 1) ((hread.out.below hb).mono hb.size) (by have := hn.out; omega) (by omega) (by omega)
      have er : rotL zs ((i : Int) + 1) = rotN zs (i + 1) := by
        have := rotL_nat zs (i + 1)
        rwa [Int.natCast_add] at this
      rw [er] at hrot
      have hlt2 : (i : Int) + 1 < (n : Int) := by omega
      replace er := hidI er
      go_wp2_with fail
      refine hrot.mono ?_
      rintro e w2 ⟨v2, rfl, hrow2, hb2'⟩
      have hb2 := hb.trans (hb2'.mono hb.size)
      have hrowb := hidI (hrow.out.below hb2' (Nat.le_refl _))
      have hcmp := specCmp w2 w2.heap.size v2 _ _ _ hrow2.read (hrowb.out.read.mono hb2'.size)
      obtain ⟨c, hc⟩ : ∃ c, c = cmpI (rotN zs (i + 1)) (lrG zs i).1 := ⟨_, rfl⟩
      rw [← hc] at hcmp
      have hs2 := hb.size
      have hs3 := hb2'.size
      replace hrow2 := hidI hrow2
      clear hrot hb2' hrow hb
      go_wp2_with fail
      refine hcmp.mono ?_
      rintro e w3 ⟨rfl, nq, hwq⟩
      have hbq : Below w2.heap.size w2 w3 := by rw [hwq]; exact below_dN (Below.refl _ _) nq
      have hszq : w3.heap.size = w2.heap.size := by rw [hwq]; rfl
      have hb3 := hb2.trans (hbq.mono (by omega))
      clear hcmp hwq
      by_cases hc0 : c < 0
      · have hyes := lrG_yes (w := zs) (k := i) (by rw [← hc]; exact hc0)
        have hr4 : Hid (RowI w3 w.heap.size w3.heap.size v2 (lrG zs (i + 1 + 1 - 1)).1) := hidI (by
          rw [Nat.add_sub_cancel, hyes]
          exact (hrow2.out.below hbq (by omega)).wide (by omega) (by omega))
        have hat2 : Hid ((.int .i64 ((i : Int) + 1) : Value) = .int .i64 (lrG zs (i + 1 + 1 - 1)).2) := hidI (by
          rw [Nat.add_sub_cancel, hyes, Int.natCast_add]; rfl)
        replace hyes := hidI hyes
        replace hc := hidI hc
        clear hrow2 hrowb hbq hb2
        go_wp2
        go_roundw
        case rel => exact ⟨i + 1 + 1, by omega, .inl (by omega), by go_num, hat2, hr4, hb3⟩
        case measure => simp [intOf]; omega
      · have hno := lrG_no (w := zs) (k := i) (by rw [← hc]; exact hc0)
        have hr4 : Hid (RowI w3 w.heap.size w3.heap.size _ (lrG zs (i + 1 + 1 - 1)).1) := hidI (by
          rw [Nat.add_sub_cancel, hno]
          exact (hrowb.out.below hbq (by omega)).wide (Nat.le_refl _) (by omega))
        have hat2 : Hid ((.int .i64 ((lrG zs i).2 : Int) : Value) = .int .i64 (lrG zs (i + 1 + 1 - 1)).2) := hidI (by
          rw [Nat.add_sub_cancel, hno])
        replace hno := hidI hno
        replace hc := hidI hc
        clear hrow2 hrowb hbq hb2
        go_wp2
        go_roundw
        case rel => exact ⟨i + 1 + 1, by omega, .inl (by omega), by go_num, hat2, hr4, hb3⟩
        case measure => simp [intOf]; omega
    · have hfin : lrG zs i = lrL zs := by
        unfold lrL
        congr 1
        have := hn.out
        omega
      have hr : IntsIntRet w (lrL zs).1 (lrL zs).2 (.returned (.tuple #[_, .int .i64 ((lrG zs i).2 : Int)])) wr := ⟨_, by rw [hfin], by rw [← hfin]; exact hrow.out, hb⟩
      have hlt2 : ¬ (i : Int) + 1 < (n : Int) := by omega
      replace hr := hidI hr
      replace hfin := hidI hfin
      go_wp2
      go_ret2
      exact hr.out
end Go.Proofs.Ytcjkgknmpgehbaa
