/- Cyclic words, the program: periodOf. -/
import Derived.Test.YtcjkgknmpgehbaaWP4
import Derived.BigQuiet
namespace Go.Proofs.Ytcjkgknmpgehbaa
open Go.RowKit
set_option linter.unusedVariables false

/-- No place before d is a period. -/
def NoPer (w : List Int) (d : Nat) : Prop := ∀ e, 0 < e → e < d → ¬ (w.length % e = 0 ∧ Shifts w e)
theorem NoPer.step {w : List Int} {d : Nat} (h : NoPer w d) (hd : ¬ (w.length % d = 0 ∧ Shifts w d)) : NoPer w (d + 1) := by
  intro e h1 h2
  by_cases h3 : e = d
  · subst h3; exact hd
  · exact h e h1 (by omega)
theorem NoPer.full {w : List Int} {d : Nat} (h : NoPer w d) (hd : w.length ≤ d) : per w = w.length := by
  unfold per
  split
  · rename_i e; rw [e]; rfl
  · rename_i hne
    have hpos : 0 < w.length := by
      rcases Nat.eq_zero_or_pos w.length with h | h
      · exact absurd (List.length_eq_zero_iff.1 h) hne
      · exact h
    exact rd_eq hpos (Nat.le_refl _) (Nat.mod_self _) (.inl rfl) (fun e h1 h2 => h e h1 (by omega))
theorem NoPer.found {w : List Int} {d : Nat} (h : NoPer w d) (h0 : 0 < d) (hd : d < w.length) (hm : w.length % d = 0) (hs : Shifts w d) : per w = d := by
  have hne : w ≠ [] := by intro e; rw [e] at hd; simp at hd
  rw [per_of hne]
  exact rd_eq h0 (by omega) hm (.inr hs) h
set_option maxHeartbeats 3200000 in
theorem period_any (w : World) (B : Nat) (v : Value) (zs : List Int) (h : ReadI B w v zs) (hl : zs.length ≤ 100000000) :
    Calls Try.prog 65 #[v] w (IntRet w (per zs : Int)) := by
  have hread := h
  obtain ⟨_, a, cap, rfl, hq1, hq2⟩ := h
  clear hq1 hq2
  obtain ⟨n, hn⟩ : ∃ n, n = zs.length := ⟨_, rfl⟩
  rw [← hn] at hl hread ⊢
  obtain ⟨F, hF⟩ : ∃ F, F = per zs := ⟨_, rfl⟩
  rw [← hF]
  have hstart : NoPer zs 1 := fun e h1 h2 => by omega
  replace hn := hidI hn
  replace hF := hidI hF
  replace hread := hidI hread
  replace hstart := hidI hstart
  go_enter Try.func65, Try.ntmps65
  go_wp2
  go_step3
  go_wp2
  go_step3
  go_wp2
  go_loopg [3] n (fun g dv wr => ∃ d m : Nat, g = n + 1 - d ∧ dv = .int .i64 d ∧ 1 ≤ d ∧ d ≤ 100000001 ∧ Hid (NoPer zs d) ∧ wr = w.drewN m)
  case atStart => exact ⟨1, 0, by omega, rfl, Nat.le_refl _, by omega, hstart, rfl⟩
  case round =>
    clear hstart
    obtain ⟨d, m, rfl, rfl, hd1, hd2, hp, rfl⟩ := hrel
    by_cases hlt : d < n
    · have hlt2 : (d : Int) < (n : Int) := by omega
      have hd0 : ¬ (d : Int) = 0 := by omega
      have hd0f : ((d : Int) == 0) = false := by rw [beq_eq_false_iff_ne]; omega
      have htm : (n : Int).tmod (d : Int) = ((n % d : Nat) : Int) := by rw [Int.tmod_eq_emod_of_nonneg (by omega)]; exact (Int.natCast_emod n d).symm
      have htm2 : (n : Int) % (d : Int) = ((n % d : Nat) : Int) := (Int.natCast_emod n d).symm
      obtain ⟨r, hr0⟩ : ∃ r, r = n % d := ⟨_, rfl⟩
      rw [← hr0] at htm htm2
      by_cases hz : r = 0
      · subst hz
        have hzf : (((0 : Nat) : Int) != 0) = false := rfl
        obtain ⟨q, hq⟩ : ∃ q, q = n - d := ⟨_, rfl⟩
        have hsub : (n : Int) - (d : Int) = (q : Int) := by omega
        have hql : q ≤ 100000000 := by omega
        replace hq := hidI hq
        replace hr0 := hidI hr0
        go_wp2
        go_loopg [20] q (fun g iv wr => ∃ i m : Nat, i + g = q ∧ iv = .int .i64 i ∧ Hid (∀ t, t < i → zs.getD t 0 = zs.getD (t + d) 0) ∧ wr = w.drewN m)
        case atStart => exact ⟨0, m, by omega, rfl, hidI (fun t h => by omega), rfl⟩
        case round =>
          obtain ⟨i, m2, hi, rfl, ht, rfl⟩ := hrel
          by_cases hli : i < q
          · obtain ⟨x, hx⟩ : ∃ x, x = zs.getD i 0 := ⟨_, rfl⟩
            obtain ⟨y, hy⟩ : ∃ y, y = zs.getD (i + d) 0 := ⟨_, rfl⟩
            obtain ⟨b1, off1, rfl, hB1, hc1⟩ := hread.out.at_ i (by have := hn.out; have := hq.out; omega)
            obtain ⟨b2, off2, he2, hB2, hc2⟩ := hread.out.at_ (i + d) (by have := hn.out; have := hq.out; omega)
            cases he2
            rw [← hx] at hc1
            rw [← hy] at hc2
            have hli2 : (i : Int) < (q : Int) := by omega
            have hin1 : (i : Int) < (n : Int) := by have := hq.out; omega
            have hin2 : (i : Int) + (d : Int) < (n : Int) := by have := hq.out; omega
            by_cases he : x = y
            · have hne : (x != y) = false := by rw [bne_eq_false_iff_eq]; exact he
              have hs : ∀ t, t < i + 1 → zs.getD t 0 = zs.getD (t + d) 0 := by
                intro t h1
                by_cases h2 : t = i
                · subst h2; rw [← hx, ← hy]; exact he
                · exact ht.out t (by omega)
              replace hs := hidI hs
              replace hx := hidI hx
              replace hy := hidI hy
              replace he := hidI he
              replace hi := hidI hi
              go_wp2
              go_quiet (fail)
              go_wp2
              go_roundg (q - (i + 1))
              case rel => exact ⟨i + 1, _, by have := hi.out; omega, by go_num, hs, rfl⟩
              case measure => have := hi.out; omega
            · have hne : (x != y) = true := by rw [bne_iff_ne]; exact he
              have hno : NoPer zs (d + 1) := hp.out.step (by
                rintro ⟨_, h2⟩
                apply he
                rw [hx, hy]
                exact h2 i (by have := hn.out; have := hq.out; omega))
              replace hno := hidI hno
              replace hx := hidI hx
              replace hy := hidI hy
              replace he := hidI he
              replace hi := hidI hi
              go_wp2
              go_quiet (fail)
              go_wp2
              go_roundg (n + 1 - (d + 1))
              case rel => exact ⟨d + 1, _, rfl, by go_num, by omega, by omega, hno, rfl⟩
              case measure => omega
          · obtain rfl : i = q := by omega
            have hfin : F = d := by
              rw [hF.out]
              refine hp.out.found (by omega) (by have := hn.out; omega) (by rw [← hn.out]; exact hr0.out.symm) ?_
              intro t h1
              exact ht.out t (by have := hn.out; have := hq.out; omega)
            have hli2 : ¬ (i : Int) < (i : Int) := by omega
            replace hfin := hidI hfin
            replace hi := hidI hi
            go_wp2
            try rw [Exit.noGoto_ret]
            go_ret
            exact ⟨ret_i (by rw [hfin.out]), _, rfl⟩
      · have hno : NoPer zs (d + 1) := hp.out.step (by
          rintro ⟨h2, _⟩
          apply hz
          rw [hr0, hn.out]
          exact h2)
        have hzf : ((r : Int) != 0) = true := by rw [bne_iff_ne]; omega
        replace hno := hidI hno
        replace hr0 := hidI hr0
        go_wp2
        go_roundg (n + 1 - (d + 1))
        case rel => exact ⟨d + 1, _, rfl, by go_num, by omega, by omega, hno, rfl⟩
        case measure => omega
    · have hfin : F = n := by
        rw [hF.out, hn.out]
        exact hp.out.full (by have := hn.out; omega)
      have hlt2 : ¬ (d : Int) < (n : Int) := by omega
      replace hfin := hidI hfin
      go_wp2
      try rw [Exit.noGoto_ret]
      go_ret
      exact ⟨ret_i (by rw [hfin.out]), _, rfl⟩
end Go.Proofs.Ytcjkgknmpgehbaa
