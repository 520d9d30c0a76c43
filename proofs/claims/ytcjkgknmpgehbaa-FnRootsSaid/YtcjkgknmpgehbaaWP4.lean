/- Cyclic words, the program: leastStart, LeastRotation. -/
import Derived.Test.YtcjkgknmpgehbaaWP3
import Derived.Test.YtcjkgknmpgehbaaWI
import Derived.WalkMore
namespace Go.Proofs.Ytcjkgknmpgehbaa
open Go.RowKit
set_option linter.unusedVariables false

set_option maxHeartbeats 800000 in
theorem letter_any (w : World) (B : Nat) (v : Value) (zs : List Int) (h : ReadI B w v zs) (hl : zs.length ≤ 100000000) (hpos : 0 < zs.length) (b i : Nat) (hb : b ≤ 100000000) (hi : i ≤ 100000000) :
    Calls Try.prog 74 #[v, .int .i64 ((b : Int) + (i : Int))] w fun e w' => e = .returned (.int .i64 (zs.getD ((b + i) % zs.length) 0)) ∧ w = w' := by
  have hread := h
  obtain ⟨_, a, cap, rfl, hq1, hq2⟩ := h
  clear hq1 hq2
  obtain ⟨n, hn⟩ : ∃ n, n = zs.length := ⟨_, rfl⟩
  rw [← hn] at hl hread hpos ⊢
  have hqlt := Nat.mod_lt (b + i) hpos
  have hmod2 : ((b : Int) + (i : Int)) % (n : Int) = (((b + i) % n : Nat) : Int) := by rw [Int.natCast_emod, Int.natCast_add]
  have hmod : ((b : Int) + (i : Int)).tmod (n : Int) = (((b + i) % n : Nat) : Int) := by rw [Int.tmod_eq_emod_of_nonneg (by omega), hmod2]
  obtain ⟨q, hq⟩ : ∃ q, q = (b + i) % n := ⟨_, rfl⟩
  rw [← hq] at hqlt hmod hmod2 ⊢
  obtain ⟨bb, off, rfl, hB, hcell⟩ := hread.at_ q (by omega)
  obtain ⟨z, hz⟩ : ∃ z, z = zs.getD q 0 := ⟨_, rfl⟩
  rw [← hz] at hcell ⊢
  have hqi : (q : Int) < (n : Int) := by omega
  have hn0 : ((n : Int) == 0) = false := by rw [beq_eq_false_iff_ne]; omega
  have hn00 : ¬ (n : Int) = 0 := by omega
  replace hz := hidI hz
  replace hq := hidI hq
  replace hn := hidI hn
  replace hread := hidI hread
  go_enter Try.func74, Try.ntmps74
  go_wp2
  go_ret
  exact ⟨rfl, rfl⟩
/-- The pass, or the empty word. -/
def PassZ (w : List Int) (n b r : Nat) : Prop := (n = 0 ∧ b = 0) ∨ Pass w b r
set_option maxHeartbeats 3200000 in
theorem leastStart_any (w : World) (v : Value) (zs : List Int) (h : ReadI w.heap.size w v zs) (hin : InR zs) (hl : zs.length ≤ 100000000) :
    Calls Try.prog 61 #[v] w fun e w' => e = .returned (.int .i64 ((lrL zs).2 : Int)) ∧ w = w' := by
  have hread := h
  obtain ⟨_, a, cap, rfl, hq1, hq2⟩ := h
  clear hq1 hq2
  obtain ⟨n, hn⟩ : ∃ n, n = zs.length := ⟨_, rfl⟩
  rw [← hn] at hl hread ⊢
  obtain ⟨F, hF⟩ : ∃ F, F = (lrL zs).2 := ⟨_, rfl⟩
  rw [← hF]
  have hstart : PassZ zs n 0 1 := by
    rcases Nat.eq_zero_or_pos n with h | h
    · exact .inl ⟨h, rfl⟩
    · exact .inr (Pass.start (by omega))
  have hF0 : n = 0 → F = 0 := by
    intro h0
    have hz : zs = [] := List.length_eq_zero_iff.1 (by omega)
    rw [hF, hz]
    rfl
  replace hn := hidI hn
  replace hF := hidI hF
  replace hF0 := hidI hF0
  replace hread := hidI hread
  replace hstart := hidI hstart
  go_enter Try.func61, Try.ntmps61
  go_wp2
  go_step3
  go_wp2
  go_step3
  go_wp2
  go_loopg [3, 4] n (fun g bv rv wr => ∃ b r : Nat, g = n + 1 - r ∧ bv = .int .i64 b ∧ rv = .int .i64 r ∧ b ≤ 100000000 ∧ r ≤ 200000001 ∧ Hid (PassZ zs n b r) ∧ Hid (wr = w))
  case atStart => exact ⟨0, 1, by omega, rfl, rfl, by omega, by omega, hstart, hidI rfl⟩
  case round =>
    obtain ⟨b, r, rfl, rfl, rfl, hb, hr, hp, hwr⟩ := hrel
    have hwr' := hwr.out.symm
    subst hwr'
    by_cases hlt : r < n
    · have hpass : Pass zs b r := by
        rcases hp.out with h | h
        · omega
        · exact h
      have hrb : b < n := by have := hpass.bn; have := hn.out; omega
      have hlt2 : (r : Int) < (n : Int) := by omega
      replace hpass := hidI hpass
      clear hstart hp
      go_wp2
      go_loopg [3, 4, 13] n (fun g bv rv iv wr => ∃ i : Nat, i + g = n ∧ bv = .int .i64 b ∧ rv = .int .i64 r ∧ iv = .int .i64 i ∧ Hid (∀ t, t < i → zs.getD ((b + t) % n) 0 = zs.getD ((r + t) % n) 0) ∧ Hid (wr = w))
      case atStart => exact ⟨0, by omega, rfl, rfl, rfl, hidI (fun t h => by omega), hidI rfl⟩
      case round =>
        obtain ⟨i, hi, rfl, rfl, rfl, ht, hwr⟩ := hrel
        have hwr' := hwr.out.symm
        subst hwr'
        by_cases hli : i < n
        · have hc1 := letter_any w w.heap.size _ zs hread.out (by have := hn.out; omega) (by have := hn.out; omega) b i (by omega) (by omega)
          have hc2 := letter_any w w.heap.size _ zs hread.out (by have := hn.out; omega) (by have := hn.out; omega) r i (by omega) (by omega)
          have hx := hin.getD ((b + i) % zs.length) (Nat.mod_lt _ (by have := hn.out; omega))
          have hy := hin.getD ((r + i) % zs.length) (Nat.mod_lt _ (by have := hn.out; omega))
          rw [← hn.out] at hc1 hc2 hx hy
          obtain ⟨x, hxe⟩ : ∃ x, x = zs.getD ((b + i) % n) 0 := ⟨_, rfl⟩
          obtain ⟨y, hye⟩ : ∃ y, y = zs.getD ((r + i) % n) 0 := ⟨_, rfl⟩
          rw [← hxe] at hc1 hx
          rw [← hye] at hc2 hy
          have hc3 := letters_cmp w x y hx hy
          have hkey := ordI_key hx hy
          obtain ⟨o, ho⟩ : ∃ o, o = ordI x y := ⟨_, rfl⟩
          rw [← ho] at hc3
          have hil : (i : Int) < (n : Int) := by omega
          -- the three ways
          have hless : o < 0 → Pass zs b (r + (i + 1)) := by
            intro h0
            refine hpass.out.less (by have := hn.out; omega) ?_ ?_
            · rw [← hn.out]; exact ht.out
            · rw [← hn.out, ← hxe, ← hye, ← ho]; exact h0
          have hmore : 0 < o → Pass zs r (max r (b + i) + 1) := by
            intro h0
            refine hpass.out.more hin (by have := hn.out; omega) (by have := hn.out; omega) ?_ ?_
            · rw [← hn.out]; exact ht.out
            · rw [← hn.out, ← hxe, ← hye, ← ho]; exact h0
          have hsame : o = 0 → ∀ t, t < i + 1 → zs.getD ((b + t) % n) 0 = zs.getD ((r + t) % n) 0 := by
            intro h0 t h1
            by_cases h2 : t = i
            · subst h2
              rw [← hxe, ← hye]
              exact hkey.2.1 (by rw [← ho]; exact h0)
            · exact ht.out t (by omega)
          clear hkey hx hy
          replace hxe := hidI hxe
          replace hye := hidI hye
          replace ho := hidI ho
          replace hless := hidI hless
          replace hmore := hidI hmore
          replace hsame := hidI hsame
          replace hi := hidI hi
          go_wp2_with fail
          refine hc1.mono ?_
          rintro e w1 ⟨rfl, rfl⟩
          go_wp2_with fail
          refine hc2.mono ?_
          rintro e w1 ⟨rfl, rfl⟩
          go_wp2_with fail
          refine hc3.mono ?_
          rintro e w1 ⟨rfl, rfl⟩
          clear hc1 hc2 hc3
          by_cases h1 : o < 0
          · have hp2 := hidI (show PassZ zs n b (r + (i + 1)) from .inr (hless.out h1))
            go_wp2
            go_roundg (n + 1 - (r + (i + 1)))
            case rel => exact ⟨b, r + (i + 1), rfl, rfl, by go_num, hb, by omega, hp2, hidI rfl⟩
            case measure => omega
          · by_cases h2 : 0 < o
            · by_cases h3 : b + i ≤ r
              · have hp2 := hidI (show PassZ zs n r (r + 1) from .inr (by have := hmore.out h2; rwa [Nat.max_eq_left h3] at this))
                have h4 : (b : Int) + (i : Int) ≤ (r : Int) := by omega
                go_wp2
                go_roundg (n + 1 - (r + 1))
                case rel => exact ⟨r, r + 1, rfl, rfl, by go_num, by omega, by omega, hp2, hidI rfl⟩
                case measure => omega
              · have hp2 := hidI (show PassZ zs n r (b + i + 1) from .inr (by have := hmore.out h2; rwa [Nat.max_eq_right (by omega)] at this))
                have h4 : ¬ (b : Int) + (i : Int) ≤ (r : Int) := by omega
                go_wp2
                go_roundg (n + 1 - (b + i + 1))
                case rel => exact ⟨r, b + i + 1, rfl, rfl, by go_num, by omega, by omega, hp2, hidI rfl⟩
                case measure => omega
            · have hs2 := hidI (hsame.out (by omega))
              have h2' : ¬ o > 0 := h2
              go_wp2
              go_roundg (n - (i + 1))
              case rel => exact ⟨i + 1, by have := hi.out; omega, rfl, rfl, by go_num, hs2, hidI rfl⟩
              case measure => have := hi.out; omega
        · obtain rfl : i = n := by omega
          have hall : b = F := by
            rw [hF.out]
            refine (hpass.out.all ?_).done hin (Nat.le_refl _)
            rw [← hn.out]
            exact ht.out
          have hli2 : ¬ (i : Int) < (i : Int) := by omega
          replace hall := hidI hall
          replace hi := hidI hi
          go_wp2
          try rw [Exit.noGoto_ret]
          go_ret
          exact ⟨ret_i (by rw [hall.out]), rfl⟩
    · have hall : b = F := by
        rcases hp.out with h | h
        · rw [hF0.out h.1]; exact h.2
        · rw [hF.out]
          exact h.done hin (by have := hn.out; omega)
      have hlt2 : ¬ (r : Int) < (n : Int) := by omega
      replace hall := hidI hall
      go_wp2
      try rw [Exit.noGoto_ret]
      go_ret
      exact ⟨ret_i (by rw [hall.out]), rfl⟩
/-- What a function that hands back a slice of ints and an int leaves: LwIntsInt, IntsIntRet. -/
theorem least_any (w : World) (v : Value) (zs : List Int) (h : ReadI w.heap.size w v zs) (hin : InR zs) (hl : zs.length ≤ 100000000) :
    Calls Try.prog 30 #[v] w (IntsIntRet w (lrL zs).1 (lrL zs).2) := by
  have hst := leastStart_any w v zs h hin hl
  have hlt : (lrL zs).2 ≤ 100000000 := by
    have := (lrG_rot zs (zs.length - 1)).2
    unfold lrL
    omega
  have hrot := rotate_any w v zs ((lrL zs).2 : Int) h hl (by omega) (by omega)
  rw [rotL_nat, ← lrL_rot] at hrot
  obtain ⟨k, hk⟩ : ∃ k, k = (lrL zs).2 := ⟨_, rfl⟩
  rw [← hk] at hst hrot hlt ⊢
  obtain ⟨a0, n0, c0, hv⟩ := h.form
  subst hv
  replace h := hidI h
  replace hk := hidI hk
  go_enter Try.func30, Try.ntmps30
  go_wp2_with fail
  refine hst.mono ?_
  rintro e w1 ⟨rfl, rfl⟩
  go_wp2_with fail
  refine hrot.mono ?_
  rintro e w1 ⟨v1, rfl, hrow, hb⟩
  replace hrow := hidI hrow
  clear hst hrot
  go_wp2
  go_ret2
  exact ⟨_, rfl, hrow.out, hb⟩
end Go.Proofs.Ytcjkgknmpgehbaa
