/- Graphs, the program: NewGraph, isVertex, isLetter, fitsGraph. -/
import Derived.Test.YtdeofaimgldklaaHK
import Derived.Test.YtdeofaimgldklaaGP1
import Derived.Test.YtdeofaimgldklaaGS3
namespace Go.Proofs.Ytdeofaimgldklaa
open Go.RowKit
set_option linter.unusedVariables false
set_option linter.unusedSimpArgs false

theorem gpVertex (w : World) (r s x : Int) (a : Option Addr) (n cap : Nat) : Calls Try.prog 46 #[.agg #[.int .i64 r, .int .i64 s, .slice a n cap], .int .i64 x] w (LwBool w (decide (0 ≤ x ∧ x < s))) := by
  obtain ⟨b, hb⟩ : ∃ b, b = decide (0 ≤ x ∧ x < s) := ⟨_, rfl⟩
  rw [← hb]
  have hbl : Below w.heap.size w (w.alloc (.cells #[.int .i64 r, .int .i64 s, .slice a n cap] 32)) := (Below.refl _ _).alloc (Nat.le_refl _) _
  by_cases h1 : 0 ≤ x
  · have d1 : decide (0 ≤ x) = true := by simp [h1]
    by_cases h2 : x < s
    · have hbb : b = true := by rw [hb, decide_eq_true_eq]; exact ⟨h1, h2⟩
      have d2 : decide (x < s) = true := by simp [h2]
      replace hb := hidI hb
      replace hbb := hidI hbb
      go_enter Try.func46, Try.ntmps46
      go_wp2
      go_ret
      exact ⟨ret_bool hbb.out.symm, hbl⟩
    · have hbb : b = false := by rw [hb, decide_eq_false_iff_not]; exact fun h => h2 h.2
      have d2 : decide (x < s) = false := by simp; omega
      replace hb := hidI hb
      replace hbb := hidI hbb
      go_enter Try.func46, Try.ntmps46
      go_wp2
      go_ret
      exact ⟨ret_bool hbb.out.symm, hbl⟩
  · have hbb : b = false := by rw [hb, decide_eq_false_iff_not]; exact fun h => h1 h.1
    have d1 : decide (0 ≤ x) = false := by simp; omega
    replace hb := hidI hb
    replace hbb := hidI hbb
    go_enter Try.func46, Try.ntmps46
    go_wp2
    go_ret
    exact ⟨ret_bool hbb.out.symm, hbl⟩
theorem gpLetter (w : World) (r x : Int) (hr1 : 1 ≤ r) (hr3 : r ≤ 3) (hx : 0 < x) : Calls Try.prog 73 #[.int .i64 r, .int .i64 x] w fun e w' => e = .returned (.bool (decide (x ≤ r))) ∧ w = w' := by
  obtain ⟨b, hb⟩ : ∃ b, b = decide (x ≤ r) := ⟨_, rfl⟩
  have g0 : (x != 0) = true := by rw [bne_iff_ne]; omega
  have g1 : decide (-r ≤ x) = true := by simp; omega
  rw [← hb]
  by_cases h2 : x ≤ r
  · have hbb : b = true := by rw [hb]; simp [h2]
    have d2 : decide (x ≤ r) = true := by simp [h2]
    replace hb := hidI hb
    replace hbb := hidI hbb
    go_enter Try.func73, Try.ntmps73
    go_wp2
    go_ret
    exact ⟨ret_bool hbb.out.symm, rfl⟩
  · have hbb : b = false := by rw [hb]; simp; omega
    have d2 : decide (x ≤ r) = false := by simp; omega
    replace hb := hidI hb
    replace hbb := hidI hbb
    go_enter Try.func73, Try.ntmps73
    go_wp2
    go_ret
    exact ⟨ret_bool hbb.out.symm, rfl⟩
set_option maxHeartbeats 6400000 in
theorem gpFits (w : World) (r s : Int) (a : Option Addr) (n cap : Nat) (f l t : Int) (hr : 1 ≤ r ∧ r ≤ 3) (hs : 1 ≤ s ∧ s ≤ 40) :
    Calls Try.prog 62 #[.agg #[.int .i64 r, .int .i64 s, .slice a n cap], .agg #[.int .i64 f, .int .i64 l, .int .i64 t]] w (LwBool w (edgeOk r s (f, l, t))) := by
  have hq : wrap64 (s - 1) = s - 1 := by unfold wrap64; omega
  have hok : edgeOk r s (f, l, t) = (decide (0 ≤ f ∧ f < s) && decide (0 ≤ t ∧ t < s) && decide (1 ≤ l ∧ l ≤ r)) := by
    unfold edgeOk
    rw [hq]
    simp only
    rw [show decide (0 ≤ f ∧ f ≤ s - 1) = decide (0 ≤ f ∧ f < s) by rw [decide_eq_decide]; omega, show decide (0 ≤ t ∧ t ≤ s - 1) = decide (0 ≤ t ∧ t < s) by rw [decide_eq_decide]; omega]
  obtain ⟨F, hF⟩ : ∃ F, F = edgeOk r s (f, l, t) := ⟨_, rfl⟩
  rw [← hF] at hok ⊢
  obtain ⟨w1, hw1⟩ : ∃ w1, w1 = (w.alloc (.cells #[.int .i64 r, .int .i64 s, .slice a n cap] 32)).alloc (.cells #[.int .i64 f, .int .i64 l, .int .i64 t] 68) := ⟨_, rfl⟩
  have hb1 : Below w.heap.size w w1 := by rw [hw1]; exact ((Below.refl _ _).alloc (Nat.le_refl _) _).alloc (by simp) _
  have hg := heap_box w (.cells #[.int .i64 r, .int .i64 s, .slice a n cap] 32) (.cells #[.int .i64 f, .int .i64 l, .int .i64 t] 68)
  have hh := heap_alloc_new (w.alloc (.cells #[.int .i64 r, .int .i64 s, .slice a n cap] 32)) (.cells #[.int .i64 f, .int .i64 l, .int .i64 t] 68)
  rw [← hw1] at hg hh
  rw [show (w.alloc (.cells #[.int .i64 r, .int .i64 s, .slice a n cap] 32)).heap.size = w.heap.size + 1 by simp] at hh
  have hlt1 : w.heap.size + 1 < w1.heap.size := by rw [hw1]; simp
  have hlt0 : w.heap.size < w1.heap.size := by omega
  have q0 := cell_of_heap hg 0
  have q1 := cell_of_heap hg 1
  have q2 := cell_of_heap hg 2
  have q3 := cell_of_heap hh 0
  have q4 := cell_of_heap hh 1
  have q5 := cell_of_heap hh 2
  simp at q0 q1 q2 q3 q4 q5
  have hv1 := gpVertex w1 r s f a n cap
  obtain ⟨b1, he1⟩ : ∃ b, b = decide (0 ≤ f ∧ f < s) := ⟨_, rfl⟩
  obtain ⟨b2, he2⟩ : ∃ b, b = decide (0 ≤ t ∧ t < s) := ⟨_, rfl⟩
  rw [← he1] at hv1 hok
  rw [← he2] at hok
  replace hF := hidI hF
  replace hw1 := hidI hw1
  replace he1 := hidI he1
  replace he2 := hidI he2
  replace hok := hidI hok
  clear hg hh hq
  go_enter Try.func62, Try.ntmps62
  go_wp2_with fail
  rw [← hw1.out]
  refine hv1.mono ?_
  rintro e w2 ⟨rfl, hb2'⟩
  have p0 := below_cell q0 hb2' hlt0
  have p1 := below_cell q1 hb2' hlt0
  have p2 := below_cell q2 hb2' hlt0
  have p3 := below_cell q3 hb2' hlt1
  have p4 := below_cell q4 hb2' hlt1
  have p5 := below_cell q5 hb2' hlt1
  have hb2 := hb1.trans (hb2'.mono hb1.size)
  cases b1 with
  | false =>
    go_wp2
    go_ret
    exact ⟨ret_bool (by rw [hok.out]; simp), hb2⟩
  | true =>
    have hv2 := gpVertex w2 r s t a n cap
    rw [← he2.out] at hv2
    go_wp2_with fail
    refine hv2.mono ?_
    rintro e w3 ⟨rfl, hb3'⟩
    have hbq := hb2'.trans (hb3'.mono hb2'.size)
    have hb3 := hb2.trans (hb3'.mono hb2.size)
    clear p0 p1 p2 p3 p4 p5
    have p0 := below_cell q0 hbq hlt0
    have p1 := below_cell q1 hbq hlt0
    have p2 := below_cell q2 hbq hlt0
    have p3 := below_cell q3 hbq hlt1
    have p4 := below_cell q4 hbq hlt1
    have p5 := below_cell q5 hbq hlt1
    cases b2 with
    | false =>
      go_wp2
      go_ret
      exact ⟨ret_bool (by rw [hok.out]; simp), hb3⟩
    | true =>
      by_cases hl0 : 0 < l
      · obtain ⟨b3, he3⟩ : ∃ b, b = decide (l ≤ r) := ⟨_, rfl⟩
        have hfin : F = b3 := by rw [hok.out, he3]; simp; omega
        have d1 : decide (0 < l) = true := by simp [hl0]
        have hv3 := gpLetter w3 r l hr.1 hr.2 hl0
        rw [← he3] at hv3
        replace he3 := hidI he3
        replace hfin := hidI hfin
        go_wp2_with fail
        refine hv3.mono ?_
        rintro e w4 ⟨rfl, rfl⟩
        go_wp2
        go_ret
        exact ⟨ret_bool hfin.out.symm, hb3⟩
      · have hfin : F = false := by rw [hok.out]; simp; omega
        have d1 : decide (0 < l) = false := by simp; omega
        replace hfin := hidI hfin
        go_wp2
        go_ret
        exact ⟨ret_bool hfin.out.symm, hb3⟩
end Go.Proofs.Ytdeofaimgldklaa
