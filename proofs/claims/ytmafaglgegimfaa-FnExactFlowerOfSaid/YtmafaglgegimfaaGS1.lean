/- Graphs, the model: CompareEdges, l4Edge. -/
import Derived.Test.YtmafaglgegimfaaGM
import Derived.Test.YtmafaglgegimfaaLW3
import Derived.BigQuiet
import Derived.Deep.LoopGhost
import Derived.Deep.RegionHeld3
namespace Go.Proofs.Ytmafaglgegimfaa
open Go.RowKit
set_option linter.unusedVariables false

/-- What follows behind a letter, for the walk of a region operation by operation (tools/region.py). -/
theorem hideQ {P : Program} {c : Code} {Q : Exit → Act → World → Prop} {a : Act} {w : World} (hp : ∀ (ch : List PanicEntry) (a : Act) (d : Option Tmp) (v : Value) (w : World), Q (.panic ch) (a.put d v) w → Q (.panic ch) a w)
    (h : ∀ Q' : Exit → Act → World → Prop, (∀ a w, Q .normal a w → Q' .normal a w) → (∀ (ch : List PanicEntry) (a : Act) (d : Option Tmp) (v : Value) (w : World), Q' (.panic ch) (a.put d v) w → Q' (.panic ch) a w) → c.wp P Q' a w) : c.wp P Q a w :=
  h Q (fun _ _ h => h) hp
/-- wpAnyH_take, the slot that is written named. -/
theorem take_at {P : Program} {ops : Array Oper} {Q : Exit → Act → World → Prop} {md : Region.Mode} {S : World → Prop} (i : Nat) (t : Tmp) {oi : Oper} {v : Value} {fuel : Nat} {listed : Array Bool} {a : Act} {w : World} (hi : ops[i]? = some oi) (hd : oi.dst = some t)
    (hs : Region.noSelect ops = true) (hf : Region.free md ops listed i = true) (hr : (Region.ready md ops listed).contains i = true)
    (hQ : ∀ (ch : List PanicEntry) (a : Act) (d : Option Tmp) (v : Value) (w : World), Q (.panic ch) (a.put d v) w → Q (.panic ch) a w) (hy : YieldsIf P ops S oi v a) (hS : S w)
    (h : wpAnyH P md ops Q S fuel (listed.setIfInBounds i true) (a.put (some t) v) w) : wpAnyH P md ops Q S (fuel + 1) listed a w :=
  wpAnyH_take hi hs hf hr (fun _ _ _ h => hQ _ _ _ _ _ h) hy hS (by rw [hd]; exact h)
set_option maxHeartbeats 1600000 in
theorem specCmpE (w : World) (f l t f' l' t' : Int) :
    Calls Try.prog 88 #[.agg #[.int .i64 f, .int .i64 l, .int .i64 t], .agg #[.int .i64 f', .int .i64 l', .int .i64 t']] w (LwInt w (cmpE (f, l, t) (f', l', t'))) := by
  obtain ⟨c, hc⟩ : ∃ c, c = cmpE (f, l, t) (f', l', t') := ⟨_, rfl⟩
  rw [← hc]
  obtain ⟨w1, hw1⟩ : ∃ w1, w1 = (((w.alloc (.cells #[.int .i64 f, .int .i64 l, .int .i64 t] 77)).alloc (.cells #[.int .i64 f', .int .i64 l', .int .i64 t'] 77)).alloc (.cells #[.int .i64 f, .int .i64 l, .int .i64 t] 3)).alloc (.cells #[.int .i64 f', .int .i64 l', .int .i64 t'] 3) := ⟨_, rfl⟩
  have hb1 : Below w.heap.size w w1 := by rw [hw1]; exact ((((Below.refl _ _).alloc (Nat.le_refl _) _).alloc (by simp) _).alloc (by simp; omega) _).alloc (by simp; omega) _
  have hx : ∀ k, k < 3 → w1.cell? ⟨w.heap.size + 1 + 1, k, none⟩ = some (.int .i64 (ecell (f, l, t) k)) := by
    intro k hk
    have h := heap_mid ((w.alloc (.cells #[.int .i64 f, .int .i64 l, .int .i64 t] 77))) (.cells #[.int .i64 f', .int .i64 l', .int .i64 t'] 77) (.cells #[.int .i64 f, .int .i64 l, .int .i64 t] 3) (.cells #[.int .i64 f', .int .i64 l', .int .i64 t'] 3)
    rw [← hw1] at h
    have hk3 : k = 0 ∨ k = 1 ∨ k = 2 := by omega
    have h2 := cell_of_heap h k
    simp at h2
    rcases hk3 with rfl | rfl | rfl <;> simpa [ecell] using h2
  have hy : ∀ k, k < 3 → w1.cell? ⟨w.heap.size + 1 + 1 + 1, k, none⟩ = some (.int .i64 (ecell (f', l', t') k)) := by
    intro k hk
    have h := heap_alloc_new (((w.alloc (.cells #[.int .i64 f, .int .i64 l, .int .i64 t] 77)).alloc (.cells #[.int .i64 f', .int .i64 l', .int .i64 t'] 77)).alloc (.cells #[.int .i64 f, .int .i64 l, .int .i64 t] 3)) (.cells #[.int .i64 f', .int .i64 l', .int .i64 t'] 3)
    rw [← hw1] at h
    have hk3 : k = 0 ∨ k = 1 ∨ k = 2 := by omega
    have h2 := cell_of_heap h k
    simp at h2
    rcases hk3 with rfl | rfl | rfl <;> simpa [ecell] using h2
  replace hc := hidI hc
  replace hw1 := hidI hw1
  replace hx := hidI hx
  replace hy := hidI hy
  go_enter Try.func88, Try.ntmps88
  go_wp2
  rw [← hw1.out]
  go_loopg [7] 3 (fun g i wr => ∃ k m : Nat, k + g = 3 ∧ i = .int .i64 k ∧ Hid (∀ j, j < k → ecell (f, l, t) j = ecell (f', l', t') j) ∧ wr = w1.drewN m)
  case atStart => exact ⟨0, 0, by omega, rfl, hidI (fun j h => by omega), rfl⟩
  case round =>
    obtain ⟨k, m, hk, rfl, he, rfl⟩ := hrel
    by_cases hlt : k < 3
    · have hcx := hx.out k hlt
      have hcy := hy.out k hlt
      obtain ⟨x, hxx⟩ : ∃ x, x = ecell (f, l, t) k := ⟨_, rfl⟩
      obtain ⟨y, hyy⟩ : ∃ y, y = ecell (f', l', t') k := ⟨_, rfl⟩
      rw [← hxx] at hcx
      rw [← hyy] at hcy
      have hki : (k : Int) < 3 := by omega
      by_cases h1 : x < y
      · have hfin : c = -1 := by rw [hc.out]; exact cmpE_lt hlt he.out (by rw [← hxx, ← hyy]; exact h1)
        replace hxx := hidI hxx
        replace hyy := hidI hyy
        replace hk := hidI hk
        replace hfin := hidI hfin
        go_wp2
        go_quiet (fail)
        go_wp2
        go_ret
        exact ⟨ret_i hfin.out.symm, below_dn (below_dn hb1 _) _⟩
      · by_cases h2 : y < x
        · have hfin : c = 1 := by rw [hc.out]; exact cmpE_gt hlt he.out (by rw [← hxx, ← hyy]; exact h2)
          have h2' : x > y := h2
          replace hxx := hidI hxx
          replace hyy := hidI hyy
          replace hk := hidI hk
          replace hfin := hidI hfin
          go_wp2
          go_quiet (fail)
          go_wp2
          go_quiet (fail)
          go_wp2
          go_ret
          exact ⟨ret_i hfin.out.symm, below_dn (below_dn (below_dn hb1 _) _) _⟩
        · have hn : ∀ j, j < k + 1 → ecell (f, l, t) j = ecell (f', l', t') j := by
            intro j hj
            by_cases hjk : j = k
            · subst hjk; omega
            · exact he.out j (by omega)
          have h2' : ¬ x > y := h2
          replace hn := hidI hn
          replace hxx := hidI hxx
          replace hyy := hidI hyy
          replace hk := hidI hk
          go_wp2
          go_quiet (fail)
          go_wp2
          go_quiet (fail)
          go_wp2
          go_roundg (3 - (k + 1))
          case rel => exact ⟨k + 1, _, by have := hk.out; omega, by go_num, hn, rfl⟩
          case measure => have := hk.out; omega
    · obtain rfl : k = 3 := by omega
      have hfin : c = 0 := by rw [hc.out]; exact cmpE_eq he.out
      replace hfin := hidI hfin
      go_wp2
      go_ret
      exact ⟨ret_i hfin.out.symm, below_dn hb1 _⟩
theorem in_any (w : World) (x lo hi : Int) : Calls Try.prog 42 #[.int .i64 x, .int .i64 lo, .int .i64 hi] w fun e w' => e = .returned (.bool (decide (lo ≤ x ∧ x ≤ hi))) ∧ w = w' := by
  obtain ⟨b, hb⟩ : ∃ b, b = decide (lo ≤ x ∧ x ≤ hi) := ⟨_, rfl⟩
  rw [← hb]
  by_cases h1 : lo ≤ x
  · have g1 : x ≥ lo := h1
    by_cases h2 : x ≤ hi
    · have hbb : b = true := by rw [hb, decide_eq_true_eq]; exact ⟨h1, h2⟩
      have d1 : decide (lo ≤ x) = true := by simp [h1]
      have d2 : decide (x ≤ hi) = true := by simp [h2]
      replace hb := hidI hb
      replace hbb := hidI hbb
      go_enter Try.func42, Try.ntmps42
      go_wp2
      go_ret
      exact ⟨ret_bool hbb.out.symm, rfl⟩
    · have hbb : b = false := by rw [hb, decide_eq_false_iff_not]; exact fun h => h2 h.2
      have d1 : decide (lo ≤ x) = true := by simp [h1]
      have d2 : decide (x ≤ hi) = false := by simp; omega
      replace hb := hidI hb
      replace hbb := hidI hbb
      go_enter Try.func42, Try.ntmps42
      go_wp2
      go_ret
      exact ⟨ret_bool hbb.out.symm, rfl⟩
  · have hbb : b = false := by rw [hb, decide_eq_false_iff_not]; exact fun h => h1 h.1
    have d1 : decide (lo ≤ x) = false := by simp; omega
    replace hb := hidI hb
    replace hbb := hidI hbb
    go_enter Try.func42, Try.ntmps42
    go_wp2
    go_ret
    exact ⟨ret_bool hbb.out.symm, rfl⟩
set_option maxHeartbeats 1600000 in
theorem specEdge (w : World) (r s : Int) (a : Option Addr) (n cap : Nat) (f l t : Int) (hs : -9223372036854775808 ≤ s ∧ s ≤ 9223372036854775807) :
    Calls Try.prog 87 #[.agg #[.int .i64 r, .int .i64 s, .slice a n cap], .agg #[.int .i64 f, .int .i64 l, .int .i64 t]] w (LwBool w (edgeOk r s (f, l, t))) := by
  obtain ⟨q, hq⟩ : ∃ q, q = wrap64 (s - 1) := ⟨_, rfl⟩
  have hok : edgeOk r s (f, l, t) = (decide (0 ≤ f ∧ f ≤ q) && decide (0 ≤ t ∧ t ≤ q) && decide (1 ≤ l ∧ l ≤ r)) := by unfold edgeOk; rw [hq]
  obtain ⟨w1, hw1⟩ : ∃ w1, w1 = (w.alloc (.cells #[.int .i64 r, .int .i64 s, .slice a n cap] 30)).alloc (.cells #[.int .i64 f, .int .i64 l, .int .i64 t] 77) := ⟨_, rfl⟩
  have hb1 : Below w.heap.size w w1 := by rw [hw1]; exact ((Below.refl _ _).alloc (Nat.le_refl _) _).alloc (by simp) _
  have hg := heap_box w (.cells #[.int .i64 r, .int .i64 s, .slice a n cap] 30) (.cells #[.int .i64 f, .int .i64 l, .int .i64 t] 77)
  have hh := heap_alloc_new (w.alloc (.cells #[.int .i64 r, .int .i64 s, .slice a n cap] 30)) (.cells #[.int .i64 f, .int .i64 l, .int .i64 t] 77)
  rw [← hw1] at hg hh
  rw [show (w.alloc (.cells #[.int .i64 r, .int .i64 s, .slice a n cap] 30)).heap.size = w.heap.size + 1 by simp] at hh
  have g0 := cell_of_heap hg 0
  have g1 := cell_of_heap hg 1
  have e0' := cell_of_heap hh 0
  have e1' := cell_of_heap hh 1
  have e2' := cell_of_heap hh 2
  simp at g0 g1 e0' e1' e2'
  have c1 := in_any w1 f 0 q
  have c2 := in_any w1 t 0 q
  have c3 := in_any w1 l 1 r
  obtain ⟨b1, hb1e⟩ : ∃ b, b = decide (0 ≤ f ∧ f ≤ q) := ⟨_, rfl⟩
  obtain ⟨b2, hb2e⟩ : ∃ b, b = decide (0 ≤ t ∧ t ≤ q) := ⟨_, rfl⟩
  obtain ⟨b3, hb3e⟩ : ∃ b, b = decide (1 ≤ l ∧ l ≤ r) := ⟨_, rfl⟩
  rw [← hb1e] at c1 hok
  rw [← hb2e] at c2 hok
  rw [← hb3e] at c3 hok
  rw [hok]
  have hq2 : wrap64 (s - 1) = q := hq.symm
  replace hq := hidI hq
  replace hw1 := hidI hw1
  replace hb1e := hidI hb1e
  replace hb2e := hidI hb2e
  replace hb3e := hidI hb3e
  replace hok := hidI hok
  clear hg hh
  go_enter Try.func87, Try.ntmps87
  go_wp2_with fail
  rw [← hw1.out]
  refine c1.mono ?_
  rintro e w2 ⟨rfl, rfl⟩
  cases b1 with
  | false =>
    go_wp2
    go_ret
    exact ⟨rfl, hb1⟩
  | true =>
    go_wp2_with fail
    refine c2.mono ?_
    rintro e w2 ⟨rfl, rfl⟩
    cases b2 with
    | false =>
      go_wp2
      go_ret
      exact ⟨rfl, hb1⟩
    | true =>
      go_wp2_with fail
      refine c3.mono ?_
      rintro e w2 ⟨rfl, rfl⟩
      go_wp2
      go_ret
      exact ⟨ret_bool (by simp), hb1⟩
end Go.Proofs.Ytmafaglgegimfaa
