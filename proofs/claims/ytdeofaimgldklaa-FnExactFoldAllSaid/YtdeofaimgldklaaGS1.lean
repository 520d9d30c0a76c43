/- Graphs, the model: CompareEdges, l4Edge. -/
import Derived.Test.YtdeofaimgldklaaHK
import Derived.Test.YtdeofaimgldklaaGM
import Derived.Test.YtdeofaimgldklaaLW3
import Derived.BigQuiet
import Derived.Deep.LoopGhost
import Derived.Deep.RegionHeld3
namespace Go.Proofs.Ytdeofaimgldklaa
open Go.RowKit
set_option linter.unusedVariables false

set_option maxHeartbeats 1600000 in
theorem specCmpE (w : World) (f l t f' l' t' : Int) :
    Calls Try.prog 56 #[.agg #[.int .i64 f, .int .i64 l, .int .i64 t], .agg #[.int .i64 f', .int .i64 l', .int .i64 t']] w (LwInt w (cmpE (f, l, t) (f', l', t'))) := by
  obtain ⟨c, hc⟩ : ∃ c, c = cmpE (f, l, t) (f', l', t') := ⟨_, rfl⟩
  rw [← hc]
  obtain ⟨w1, hw1⟩ : ∃ w1, w1 = (((w.alloc (.cells #[.int .i64 f, .int .i64 l, .int .i64 t] 68)).alloc (.cells #[.int .i64 f', .int .i64 l', .int .i64 t'] 68)).alloc (.cells #[.int .i64 f, .int .i64 l, .int .i64 t] 3)).alloc (.cells #[.int .i64 f', .int .i64 l', .int .i64 t'] 3) := ⟨_, rfl⟩
  have hb1 : Below w.heap.size w w1 := by rw [hw1]; exact ((((Below.refl _ _).alloc (Nat.le_refl _) _).alloc (by simp) _).alloc (by simp; omega) _).alloc (by simp; omega) _
  have hx : ∀ k, k < 3 → w1.cell? ⟨w.heap.size + 1 + 1, k, none⟩ = some (.int .i64 (ecell (f, l, t) k)) := by
    intro k hk
    have h := heap_mid ((w.alloc (.cells #[.int .i64 f, .int .i64 l, .int .i64 t] 68))) (.cells #[.int .i64 f', .int .i64 l', .int .i64 t'] 68) (.cells #[.int .i64 f, .int .i64 l, .int .i64 t] 3) (.cells #[.int .i64 f', .int .i64 l', .int .i64 t'] 3)
    rw [← hw1] at h
    have hk3 : k = 0 ∨ k = 1 ∨ k = 2 := by omega
    have h2 := cell_of_heap h k
    simp at h2
    rcases hk3 with rfl | rfl | rfl <;> simpa [ecell] using h2
  have hy : ∀ k, k < 3 → w1.cell? ⟨w.heap.size + 1 + 1 + 1, k, none⟩ = some (.int .i64 (ecell (f', l', t') k)) := by
    intro k hk
    have h := heap_alloc_new (((w.alloc (.cells #[.int .i64 f, .int .i64 l, .int .i64 t] 68)).alloc (.cells #[.int .i64 f', .int .i64 l', .int .i64 t'] 68)).alloc (.cells #[.int .i64 f, .int .i64 l, .int .i64 t] 3)) (.cells #[.int .i64 f', .int .i64 l', .int .i64 t'] 3)
    rw [← hw1] at h
    have hk3 : k = 0 ∨ k = 1 ∨ k = 2 := by omega
    have h2 := cell_of_heap h k
    simp at h2
    rcases hk3 with rfl | rfl | rfl <;> simpa [ecell] using h2
  replace hc := hidI hc
  replace hw1 := hidI hw1
  replace hx := hidI hx
  replace hy := hidI hy
  go_enter Try.func56, Try.ntmps56
  go_wp2
  rw [← hw1.out]
  go_loopg [7] 3 (fun g i wr => ∃ k m : Nat, k + g = 3 ∧ i = .int .i64 k ∧ Hid (∀ j, j < k → ecell (f, l, t) j = ecell (f', l', t') j) ∧ wr = w1.drewN m)
  case atStart => exact ⟨0, 0, by omega, rfl, hidI (fun j h => by omega), rfl⟩
  case round =>
    obtain ⟨k, m, hk, rfl, he, rfl⟩ := hrel
    by_cases hlt : k < 3
    · have hcx := hx.out k hlt
      have hcy := hy.out k hlt
      obtain ⟨x, hxx⟩ : ∃ x, x = ecell (f, l, t) k := ⟨_, rfl⟩
      obtain ⟨y, hyy⟩ : ∃ y, y = ecell (f', l', t') k := ⟨_, rfl⟩
      rw [← hxx] at hcx
      rw [← hyy] at hcy
      have hki : (k : Int) < 3 := by omega
      by_cases h1 : x < y
      · have hfin : c = -1 := by rw [hc.out]; exact cmpE_lt hlt he.out (by rw [← hxx, ← hyy]; exact h1)
        replace hxx := hidI hxx
        replace hyy := hidI hyy
        replace hk := hidI hk
        replace hfin := hidI hfin
        go_wp2
        go_quiet (fail)
        go_wp2
        go_ret
        exact ⟨ret_i hfin.out.symm, below_dn (below_dn hb1 _) _⟩
      · by_cases h2 : y < x
        · have hfin : c = 1 := by rw [hc.out]; exact cmpE_gt hlt he.out (by rw [← hxx, ← hyy]; exact h2)
          have h2' : x > y := h2
          replace hxx := hidI hxx
          replace hyy := hidI hyy
          replace hk := hidI hk
          replace hfin := hidI hfin
          go_wp2
          go_quiet (fail)
          go_wp2
          go_quiet (fail)
          go_wp2
          go_ret
          exact ⟨ret_i hfin.out.symm, below_dn (below_dn (below_dn hb1 _) _) _⟩
        · have hn : ∀ j, j < k + 1 → ecell (f, l, t) j = ecell (f', l', t') j := by
            intro j hj
            by_cases hjk : j = k
            · subst hjk; omega
            · exact he.out j (by omega)
          have h2' : ¬ x > y := h2
          replace hn := hidI hn
          replace hxx := hidI hxx
          replace hyy := hidI hyy
          replace hk := hidI hk
          go_wp2
          go_quiet (fail)
          go_wp2
          go_quiet (fail)
          go_wp2
          go_roundg (3 - (k + 1))
          case rel => exact ⟨k + 1, _, by have := hk.out; omega, by go_num, hn, rfl⟩
          case measure => have := hk.out; omega
    · obtain rfl : k = 3 := by omega
      have hfin : c = 0 := by rw [hc.out]; exact cmpE_eq he.out
      replace hfin := hidI hfin
      go_wp2
      go_ret
      exact ⟨ret_i hfin.out.symm, below_dn hb1 _⟩
set_option maxHeartbeats 1600000 in
theorem specEdge (w : World) (r s : Int) (a : Option Addr) (n cap : Nat) (f l t : Int) (hs : -9223372036854775808 ≤ s ∧ s ≤ 9223372036854775807) :
    Calls Try.prog 55 #[.agg #[.int .i64 r, .int .i64 s, .slice a n cap], .agg #[.int .i64 f, .int .i64 l, .int .i64 t]] w (LwBool w (edgeOk r s (f, l, t))) := by
  obtain ⟨q, hq⟩ : ∃ q, q = wrap64 (s - 1) := ⟨_, rfl⟩
  have hok : edgeOk r s (f, l, t) = (decide (0 ≤ f ∧ f ≤ q) && decide (0 ≤ t ∧ t ≤ q) && decide (1 ≤ l ∧ l ≤ r)) := by unfold edgeOk; rw [hq]
  obtain ⟨w1, hw1⟩ : ∃ w1, w1 = (w.alloc (.cells #[.int .i64 r, .int .i64 s, .slice a n cap] 32)).alloc (.cells #[.int .i64 f, .int .i64 l, .int .i64 t] 68) := ⟨_, rfl⟩
  have hb1 : Below w.heap.size w w1 := by rw [hw1]; exact ((Below.refl _ _).alloc (Nat.le_refl _) _).alloc (by simp) _
  have hg := heap_box w (.cells #[.int .i64 r, .int .i64 s, .slice a n cap] 32) (.cells #[.int .i64 f, .int .i64 l, .int .i64 t] 68)
  have hh := heap_alloc_new (w.alloc (.cells #[.int .i64 r, .int .i64 s, .slice a n cap] 32)) (.cells #[.int .i64 f, .int .i64 l, .int .i64 t] 68)
  rw [← hw1] at hg hh
  rw [show (w.alloc (.cells #[.int .i64 r, .int .i64 s, .slice a n cap] 32)).heap.size = w.heap.size + 1 by simp] at hh
  have g0 := cell_of_heap hg 0
  have g1 := cell_of_heap hg 1
  have e0' := cell_of_heap hh 0
  have e1' := cell_of_heap hh 1
  have e2' := cell_of_heap hh 2
  simp at g0 g1 e0' e1' e2'
  have c1 := in_any w1 f 0 q
  have c2 := in_any w1 t 0 q
  have c3 := in_any w1 l 1 r
  obtain ⟨b1, hb1e⟩ : ∃ b, b = decide (0 ≤ f ∧ f ≤ q) := ⟨_, rfl⟩
  obtain ⟨b2, hb2e⟩ : ∃ b, b = decide (0 ≤ t ∧ t ≤ q) := ⟨_, rfl⟩
  obtain ⟨b3, hb3e⟩ : ∃ b, b = decide (1 ≤ l ∧ l ≤ r) := ⟨_, rfl⟩
  rw [← hb1e] at c1 hok
  rw [← hb2e] at c2 hok
  rw [← hb3e] at c3 hok
  rw [hok]
  have hq2 : wrap64 (s - 1) = q := hq.symm
  replace hq := hidI hq
  replace hw1 := hidI hw1
  replace hb1e := hidI hb1e
  replace hb2e := hidI hb2e
  replace hb3e := hidI hb3e
  replace hok := hidI hok
  clear hg hh
  go_enter Try.func55, Try.ntmps55
  go_wp2_with fail
  rw [← hw1.out]
  refine c1.mono ?_
  rintro e w2 ⟨rfl, rfl⟩
  cases b1 with
  | false =>
    go_wp2
    go_ret
    exact ⟨rfl, hb1⟩
  | true =>
    go_wp2_with fail
    refine c2.mono ?_
    rintro e w2 ⟨rfl, rfl⟩
    cases b2 with
    | false =>
      go_wp2
      go_ret
      exact ⟨rfl, hb1⟩
    | true =>
      go_wp2_with fail
      refine c3.mono ?_
      rintro e w2 ⟨rfl, rfl⟩
      go_wp2
      go_ret
      exact ⟨ret_bool (by simp), hb1⟩
end Go.Proofs.Ytdeofaimgldklaa
