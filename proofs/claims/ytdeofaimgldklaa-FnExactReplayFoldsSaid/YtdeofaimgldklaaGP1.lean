/- Graphs, the program: CompareEdges. -/
import Derived.Test.YtdeofaimgldklaaGM
import Derived.Test.YtdeofaimgldklaaGS1
import Derived.StillTailTactics
namespace Go.Proofs.Ytdeofaimgldklaa
open Go.RowKit
set_option linter.unusedVariables false

def sgnI (a b : Int) : Int := if a < b then -1 else if b < a then 1 else 0
def or3 (x y z : Int) : Int := if x = 0 then (if y = 0 then z else y) else x
theorem cmpE_or (f l t f' l' t' : Int) : cmpE (f, l, t) (f', l', t') = or3 (sgnI f f') (sgnI l l') (sgnI t t') := by
  unfold cmpE or3 sgnI
  simp only
  repeat' split
  all_goals first | rfl | omega
theorem gpNan (w : World) (x : Int) : Calls Try.prog 80 #[.int .i64 x] w fun e w' => e = .returned (.bool false) ∧ w' = w := by
  have h : (x != x) = false := by simp
  go_enter Try.func80, Try.ntmps80
  go_wp2
  go_ret
  exact ⟨rfl, rfl⟩
theorem gpCmp (w : World) (a b : Int) : Calls Try.prog 75 #[.int .i64 a, .int .i64 b] w fun e w' => e = .returned (.int .i64 (sgnI a b)) ∧ w' = w := by
  by_cases h1 : a < b
  · have hz : sgnI a b = -1 := if_pos h1
    replace hz := hidI hz
    go_enter Try.func75, Try.ntmps75
    go_wp2_with (go_at_call 80; refine (gpNan _ _).mono ?_; rintro e w' ⟨rfl, rfl⟩)
    go_ret
    exact ⟨ret_i hz.out.symm, rfl⟩
  · by_cases h2 : b < a
    · have hz : sgnI a b = 1 := by unfold sgnI; rw [if_neg h1, if_pos h2]
      replace hz := hidI hz
      go_enter Try.func75, Try.ntmps75
      go_wp2_with (go_at_call 80; refine (gpNan _ _).mono ?_; rintro e w' ⟨rfl, rfl⟩)
      go_ret
      exact ⟨ret_i hz.out.symm, rfl⟩
    · have hz : sgnI a b = 0 := by unfold sgnI; rw [if_neg h1, if_neg h2]
      replace hz := hidI hz
      go_enter Try.func75, Try.ntmps75
      go_wp2_with (go_at_call 80; refine (gpNan _ _).mono ?_; rintro e w' ⟨rfl, rfl⟩)
      go_ret
      exact ⟨ret_i hz.out.symm, rfl⟩
def nth3 (x y z : Int) : Nat → Int
  | 0 => x
  | 1 => y
  | _ => z
theorem or3_any (w : World) (b : Nat) (x y z : Int) (h : ∀ k, k < 3 → w.cell? ⟨b, k, none⟩ = some (.int .i64 (nth3 x y z k))) :
    Calls Try.prog 74 #[.slice (some ⟨b, 0, none⟩) 3 3] w fun e w' => e = .returned (.int .i64 (or3 x y z)) ∧ w = w' := by
  obtain ⟨c, hc⟩ : ∃ c, c = or3 x y z := ⟨_, rfl⟩
  rw [← hc]
  have hend : (∀ j, j < 3 → nth3 x y z j = 0) → c = 0 := by
    intro h0
    have h1 := h0 0 (by omega)
    have h2 := h0 1 (by omega)
    have h3 := h0 2 (by omega)
    simp only [nth3] at h1 h2 h3
    rw [hc]; unfold or3; simp [h1, h2, h3]
  have hat : ∀ k, k < 3 → (∀ j, j < k → nth3 x y z j = 0) → nth3 x y z k ≠ 0 → c = nth3 x y z k := by
    intro k hk h0 hne
    rw [hc]
    have hk3 : k = 0 ∨ k = 1 ∨ k = 2 := by omega
    rcases hk3 with rfl | rfl | rfl
    · simp only [nth3] at hne ⊢; unfold or3; rw [if_neg hne]
    · have h1 := h0 0 (by omega); simp only [nth3] at hne h1 ⊢; unfold or3; rw [if_pos h1, if_neg hne]
    · have h1 := h0 0 (by omega); have h2 := h0 1 (by omega); simp only [nth3] at hne h1 h2 ⊢; unfold or3; rw [if_pos h1, if_pos h2]
  replace hc := hidI hc
  replace h := hidI h
  replace hat := hidI hat
  replace hend := hidI hend
  go_enter Try.func74, Try.ntmps74
  go_wp2
  go_loopg [8] 3 (fun g i wr => ∃ k : Nat, k + g = 3 ∧ i = .int .i64 k ∧ Hid (∀ j, j < k → nth3 x y z j = 0) ∧ Hid (wr = w))
  case atStart => exact ⟨0, by omega, rfl, hidI (fun j h => by omega), hidI rfl⟩
  case round =>
    obtain ⟨k, hk, rfl, he, hwr⟩ := hrel
    have hwr' := hwr.out.symm
    subst hwr'
    by_cases hlt : k < 3
    · have hcx := h.out k hlt
      obtain ⟨v, hv⟩ : ∃ v, v = nth3 x y z k := ⟨_, rfl⟩
      rw [← hv] at hcx
      have hki : (k : Int) < 3 := by omega
      by_cases h1 : v = 0
      · have hn : ∀ j, j < k + 1 → nth3 x y z j = 0 := by
          intro j hj
          by_cases hjk : j = k
          · subst hjk; omega
          · exact he.out j (by omega)
        have t1 : (v != 0) = false := by rw [bne_eq_false_iff_eq]; exact h1
        replace hn := hidI hn
        replace hv := hidI hv
        replace hk := hidI hk
        replace h1 := hidI h1
        go_wp2
        go_roundg (3 - (k + 1))
        case rel => exact ⟨k + 1, by have := hk.out; omega, by go_num, hn, hidI rfl⟩
        case measure => have := hk.out; omega
      · have hfin : c = v := by rw [hv]; exact hat.out k hlt he.out (by rw [← hv]; exact h1)
        have t1 : (v != 0) = true := by rw [bne_iff_ne]; exact h1
        replace hfin := hidI hfin
        replace hv := hidI hv
        replace hk := hidI hk
        replace h1 := hidI h1
        go_wp2
        go_ret
        exact ⟨ret_i hfin.out.symm, rfl⟩
    · obtain rfl : k = 3 := by omega
      have hfin := hidI (hend.out he.out)
      go_wp2
      go_ret
      exact ⟨ret_i hfin.out.symm, rfl⟩
set_option maxRecDepth 100000 in
set_option maxHeartbeats 1600000 in
theorem progCmpE (w : World) (f l t f' l' t' : Int) :
    Calls Try.prog 63 #[.agg #[.int .i64 f, .int .i64 l, .int .i64 t], .agg #[.int .i64 f', .int .i64 l', .int .i64 t']] w (LwInt w (cmpE (f, l, t) (f', l', t'))) := by
  obtain ⟨c, hc⟩ : ∃ c, c = cmpE (f, l, t) (f', l', t') := ⟨_, rfl⟩
  have hor := cmpE_or f l t f' l' t'
  rw [← hc] at hor ⊢
  obtain ⟨w1, hw1⟩ : ∃ w1, w1 = (w.alloc (.cells #[.int .i64 f, .int .i64 l, .int .i64 t] 68)).alloc (.cells #[.int .i64 f', .int .i64 l', .int .i64 t'] 68) := ⟨_, rfl⟩
  have hb1 : Below w.heap.size w w1 := by rw [hw1]; exact ((Below.refl _ _).alloc (Nat.le_refl _) _).alloc (by simp) _
  have hg := heap_box w (.cells #[.int .i64 f, .int .i64 l, .int .i64 t] 68) (.cells #[.int .i64 f', .int .i64 l', .int .i64 t'] 68)
  have hh := heap_alloc_new (w.alloc (.cells #[.int .i64 f, .int .i64 l, .int .i64 t] 68)) (.cells #[.int .i64 f', .int .i64 l', .int .i64 t'] 68)
  rw [← hw1] at hg hh
  rw [show (w.alloc (.cells #[.int .i64 f, .int .i64 l, .int .i64 t] 68)).heap.size = w.heap.size + 1 by simp] at hh
  have g0 := cell_of_heap hg 0
  have g1 := cell_of_heap hg 1
  have g2 := cell_of_heap hg 2
  have k0 := cell_of_heap hh 0
  have k1 := cell_of_heap hh 1
  have k2 := cell_of_heap hh 2
  simp at g0 g1 g2 k0 k1 k2
  obtain ⟨x, hx⟩ : ∃ x, x = sgnI f f' := ⟨_, rfl⟩
  obtain ⟨y, hy⟩ : ∃ y, y = sgnI l l' := ⟨_, rfl⟩
  obtain ⟨z, hz⟩ : ∃ z, z = sgnI t t' := ⟨_, rfl⟩
  have e1 := fun W => gpCmp W f f'
  have e2 := fun W => gpCmp W l l'
  have e3 := fun W => gpCmp W t t'
  rw [← hx, ← hy, ← hz] at hor
  rw [← hx] at e1
  rw [← hy] at e2
  rw [← hz] at e3
  replace hc := hidI hc
  replace hw1 := hidI hw1
  replace hor := hidI hor
  replace hx := hidI hx
  replace hy := hidI hy
  replace hz := hidI hz
  clear hg hh
  go_enter Try.func63, Try.ntmps63
  go_wp2
  rw [← hw1.out]
  refine wp_region_still_tail 15 (by kernel_rfl) (by kernel_rfl) ?_
  simp only [List.take_succ_cons, List.take_zero, List.drop_succ_cons, List.drop_zero]
  repeat still_step
  still_call (e1 _)
  repeat still_step
  still_call (e2 _)
  repeat still_step
  still_call (e3 _)
  refine wpStill_nil ?_
  change wpList _ _ _ _ _ w1.drew
  obtain ⟨w2, hw2⟩ : ∃ w2, w2 = w1.drew := ⟨_, rfl⟩
  rw [← hw2]
  have hb2 : Below w.heap.size w w2 := by rw [hw2]; exact below_dn hb1 1
  obtain ⟨w3, hw3⟩ : ∃ w3, w3 = w2.alloc (.cells #[.int .i64 x, .int .i64 y, .int .i64 z] 3) := ⟨_, rfl⟩
  have hb3 : Below w.heap.size w w3 := by rw [hw3]; exact hb2.alloc hb2.size _
  have hh3 := heap_alloc_new w2 (.cells #[.int .i64 x, .int .i64 y, .int .i64 z] 3)
  rw [← hw3] at hh3
  have hcall := or3_any w3 w2.heap.size x y z (by
    intro k hk
    have hk3 : k = 0 ∨ k = 1 ∨ k = 2 := by omega
    have h2 := cell_of_heap hh3 k
    simp at h2
    rcases hk3 with rfl | rfl | rfl <;> simpa [nth3] using h2)
  replace hw2 := hidI hw2
  replace hw3 := hidI hw3
  clear hh3 g0 g1 g2 k0 k1 k2 e1 e2 e3
  go_wp2_with fail
  rw [← hw3.out]
  refine hcall.mono ?_
  rintro e w4 ⟨rfl, rfl⟩
  go_wp2
  go_ret
  exact ⟨ret_i hor.out.symm, hb3⟩
end Go.Proofs.Ytdeofaimgldklaa
