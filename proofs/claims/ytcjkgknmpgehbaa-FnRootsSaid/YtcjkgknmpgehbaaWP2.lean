/- Cyclic words, the program: slices.Concat, remainderOf, RotateWord. -/
import Derived.Test.YtcjkgknmpgehbaaWP1
namespace Go.Proofs.Ytcjkgknmpgehbaa
open Go.RowKit
set_option linter.unusedVariables false

set_option maxHeartbeats 1600000 in
theorem concat_any (w : World) (v : Value) (zss : List (List Int)) (h : ReadLL w.heap.size w v zss) (hl : zss.flatten.length ≤ 1000000000) :
    Calls Try.prog 64 #[v] w (IntsRet w zss.flatten) := by
  have hread := h
  obtain ⟨hml, a, cap, rfl, hq⟩ := h
  clear hq
  obtain ⟨m, hm⟩ : ∃ m, m = zss.length := ⟨_, rfl⟩
  rw [← hm] at hml hread ⊢
  have hlen := hidI (take_flat_le zss)
  replace hm := hidI hm
  replace hread := hidI hread
  go_enter Try.func64, Try.ntmps64
  go_wp2
  go_loopg [3, 11] m (fun g s i wr => ∃ k t : Nat, k + g = m ∧ i = .int .i64 k ∧ s = .int .i64 t ∧ Hid (t = (zss.take k).flatten.length) ∧ Hid (wr = w))
  case atStart => exact ⟨0, 0, by omega, rfl, rfl, hidI rfl, hidI rfl⟩
  case round =>
    obtain ⟨k, t, hk, rfl, rfl, ht, hwr⟩ := hrel
    have hwr' := hwr.out.symm
    subst hwr'
    have htl : t ≤ 1000000000 := by have := ht.out; have := hlen.out k; omega
    by_cases hlt : k < m
    · obtain ⟨b, off, vi, rfl, hB, hcell, hri⟩ := hread.out.at_ k (by have := hm.out; omega)
      have hstep := take_flat (zss := zss) (k := k) (by have := hm.out; omega)
      have hlen2 := hlen.out (k + 1)
      obtain ⟨z, hz⟩ : ∃ z, z = zss.getD k [] := ⟨_, rfl⟩
      rw [← hz] at hri hstep
      obtain ⟨hzl, a2, cap2, rfl, hq1, hq2⟩ := hri
      obtain ⟨n, hn⟩ : ∃ n, n = z.length := ⟨_, rfl⟩
      rw [← hn] at hcell
      have ht2 : t + n = (zss.take (k + 1)).flatten.length := by rw [hstep, List.length_append, ← ht.out, hn]
      have htn : t + n ≤ 1000000000 := by omega
      have htn0 : ¬ ((t : Int) + (n : Int)) < 0 := by omega
      have hk2 : (k : Int) < (m : Int) := by omega
      clear hq1 hq2 hstep hlen2 hzl
      replace hz := hidI hz
      replace hn := hidI hn
      replace ht2 := hidI ht2
      replace hk := hidI hk
      go_wp2
      go_roundg (m - (k + 1))
      case rel => exact ⟨k + 1, t + n, by have := hk.out; omega, by go_num, by go_num, ht2, hidI rfl⟩
      case measure => have := hk.out; omega
    · obtain rfl : k = m := by omega
      have hgrow := grow_nil w t htl
      have hk2 : ¬ (k : Int) < (k : Int) := by omega
      replace hk := hidI hk
      go_wp2_with fail
      refine hgrow.mono ?_
      rintro e w1 ⟨v1, rfl, hown1, hb1⟩
      replace hown1 := hidI hown1
      clear hgrow
      go_wp2
      go_loopg [6, 27] k (fun g vv i wx => ∃ j : Nat, j + g = k ∧ i = .int .i64 j ∧ Hid (OwnsI wx w.heap.size vv (zss.take j).flatten) ∧ Below w.heap.size w wx)
      case atStart => exact ⟨0, by omega, rfl, hown1, hb1⟩
      case round =>
        clear hown1 hb1
        obtain ⟨j, hj, rfl, hown, hb⟩ := hrel
        by_cases hlj : j < k
        · obtain ⟨b, off, vi, rfl, hB, hcell0, hri⟩ := hread.out.at_ j (by have := hm.out; omega)
          have hcell : wr.cell? ⟨b, off + j, none⟩ = some vi := by rw [hb.cell (p := ⟨b, off + j, none⟩) hB]; exact hcell0
          have hx := hidI (hri.below hb)
          have hstep := take_flat (zss := zss) (k := j) (by have := hm.out; omega)
          have hlen2 := hlen.out (j + 1)
          obtain ⟨z, hz⟩ : ∃ z, z = zss.getD j [] := ⟨_, rfl⟩
          rw [← hz] at hx hstep
          have hl3 : (zss.take j).flatten.length + z.length ≤ 1000000000 := by rw [hstep, List.length_append] at hlen2; omega
          obtain ⟨L, hL⟩ : ∃ L, L = (zss.take j).flatten := ⟨_, rfl⟩
          rw [← hL] at hown hstep hl3
          have hj2 : (j : Int) < (k : Int) := by omega
          clear hcell0 hri hlen2
          replace hstep := hidI hstep
          replace hL := hidI hL
          replace hz := hidI hz
          replace hj := hidI hj
          go_wp2_with (at_builtin; go_must (refine wpList_pushAllI rfl _ _ rfl w.heap.size _ _ L z w.heap.size rfl rfl (by exact hown.out) (by exact hx.out) hl3 hb.size ?_))
          intro v2 w2 hown2 hb2'
          have hb2 := hb.trans hb2'
          have hown3 : Hid (OwnsI w2 w.heap.size v2 (zss.take (j + 1)).flatten) := hidI (by rw [hstep.out]; exact hown2)
          clear hown2 hb2' hx hown hb
          go_wp2
          go_roundg (k - (j + 1))
          case rel => exact ⟨j + 1, by have := hj.out; omega, by go_num, hown3, hb2⟩
          case measure => have := hj.out; omega
        · obtain rfl : j = k := by omega
          have hfull : (zss.take j).flatten = zss.flatten := by rw [List.take_of_length_le (by have := hm.out; omega)]
          rw [hfull] at hown
          have hr : IntsRet w zss.flatten (.returned _) wr := intsRet_owns hown.out hb (Nat.le_refl _) (by omega)
          have hj2 : ¬ (j : Int) < (j : Int) := by omega
          replace hr := hidI hr
          replace hj := hidI hj
          replace hfull := hidI hfull
          go_wp2
          go_ret
          exact hr.out
/-- The remainder that is never negative; 0 at 0. -/
def remZ (k n : Int) : Int := if n = 0 then 0 else k % n
theorem remainder_any (w : World) (k : Int) (n : Nat) (hk1 : -9223372036854775808 ≤ k) (hk2 : k ≤ 9223372036854775807) (hn : n ≤ 1000000000) :
    Calls Try.prog 63 #[.int .i64 k, .int .i64 n] w fun e w' => e = .returned (.int .i64 (remZ k n)) ∧ w = w' := by
  obtain ⟨r, hr⟩ : ∃ r, r = remZ k n := ⟨_, rfl⟩
  rw [← hr]
  unfold remZ at hr
  rcases Nat.eq_zero_or_pos n with h0 | h0
  · subst h0
    rw [if_pos (by rfl)] at hr
    subst hr
    go_enter Try.func63, Try.ntmps63
    go_wp2
    go_ret
    exact ⟨rfl, rfl⟩
  · rw [if_neg (by omega)] at hr
    have hpos : (0 : Int) < (n : Int) := by omega
    have b1 := Int.tmod_lt_of_pos k hpos
    have b2 : -(n : Int) < k.tmod (n : Int) := by
      have := Int.tmod_lt_of_pos (-k) hpos
      rw [Int.neg_tmod] at this
      omega
    obtain ⟨t, ht⟩ : ∃ t, t = k.tmod (n : Int) := ⟨_, rfl⟩
    have em : t % (n : Int) = k % (n : Int) := by
      have := Int.tmod_add_mul_tdiv k (n : Int)
      have e : t = k - (n : Int) * k.tdiv (n : Int) := by omega
      rw [e, Int.sub_mul_emod_self_left]
    rw [← ht] at b1 b2
    have hn0 : ((n : Int) == 0) = false := by rw [beq_eq_false_iff_ne]; omega
    have hn00 : ¬ (n : Int) = 0 := by omega
    have ht2 : k.tmod (n : Int) = t := ht.symm
    have hun : 0 ≤ t + (n : Int) := by omega
    have hmod : (t + (n : Int)) % (n : Int) = r := by rw [Int.add_emod_right, em, hr]
    have hmod2 : (t + (n : Int)).tmod (n : Int) = r := by rw [Int.tmod_eq_emod_of_nonneg hun, hmod]
    have hr0 : 0 ≤ r := by rw [hr]; exact Int.emod_nonneg _ (by omega)
    have hr1 : r < (n : Int) := by rw [hr]; exact Int.emod_lt_of_pos _ hpos
    replace hr := hidI hr
    clear ht em
    go_enter Try.func63, Try.ntmps63
    go_wp2
    go_ret
    exact ⟨rfl, rfl⟩
end Go.Proofs.Ytcjkgknmpgehbaa
