import Derived.StillTailTactics
import Derived.Lib.SliceRun
import Derived.Test.YtpjlamnjiilgbaaGreatJ1Ba
import Derived.Test.YtpjlamnjiilgbaaGreatJ3Ba
import Derived.Test.YtpjlamnjiilgbaaGreatJ5Ba
namespace Go.Proofs.YtpjlamnjiilgbaaGreat
open Go.RowKit
set_option linter.unusedVariables false
def sgnI (a b : Int) : Int := if a < b then -1 else if b < a then 1 else 0
def or3 (x y z : Int) : Int := if x = 0 then (if y = 0 then z else y) else x
theorem cmpE_or (f l t f' l' t' : Int) : cmpE (f, l, t) (f', l', t') = or3 (sgnI f f') (sgnI l l') (sgnI t t') := by
 unfold cmpE or3 sgnI
 simp only
 repeat' split
 all_goals first | rfl | omega
theorem gpNan (w : World) (x : Int) : Calls Tryz.prog 187 #[.int .i64 x] w fun e w' => e = .returned (.bool false) ∧ w' = w := by
 have h : (x != x) = false := by simp
 go_enter Tryz.func187, Tryz.ntmps187
 go_wp2
 go_ret
 exact ⟨rfl, rfl⟩
theorem gpCmp (w : World) (a b : Int) : Calls Tryz.prog 159 #[.int .i64 a, .int .i64 b] w fun e w' => e = .returned (.int .i64 (sgnI a b)) ∧ w' = w := by
 by_cases h1 : a < b
 · have hz : sgnI a b = -1 := if_pos h1
   replace hz := hidI hz
   go_enter Tryz.func159, Tryz.ntmps159
   go_wp2_with (go_at_call 187; refine (gpNan _ _).mono ?_; rintro e w' ⟨rfl, rfl⟩)
   go_ret
   exact ⟨ret_i hz.out.symm, rfl⟩
 · by_cases h2 : b < a
   · have hz : sgnI a b = 1 := by unfold sgnI; rw [if_neg h1, if_pos h2]
     replace hz := hidI hz
     go_enter Tryz.func159, Tryz.ntmps159
     go_wp2_with (go_at_call 187; refine (gpNan _ _).mono ?_; rintro e w' ⟨rfl, rfl⟩)
     go_ret
     exact ⟨ret_i hz.out.symm, rfl⟩
   · have hz : sgnI a b = 0 := by unfold sgnI; rw [if_neg h1, if_neg h2]
     replace hz := hidI hz
     go_enter Tryz.func159, Tryz.ntmps159
     go_wp2_with (go_at_call 187; refine (gpNan _ _).mono ?_; rintro e w' ⟨rfl, rfl⟩)
     go_ret
     exact ⟨ret_i hz.out.symm, rfl⟩
def nth3 (x y z : Int) : Nat → Int
 | 0 => x
 | 1 => y
 | _ => z
theorem or3_any (w : World) (b : Nat) (x y z : Int) (h : ∀ k, k < 3 → w.cell? ⟨b, k, none⟩ = some (.int .i64 (nth3 x y z k))) :
 Calls Tryz.prog 158 #[.slice (some ⟨b, 0, none⟩) 3 3] w fun e w' => e = .returned (.int .i64 (or3 x y z)) ∧ w = w' := by
 obtain ⟨c, hc⟩ := exq (or3 x y z)
 rw [← hc]
 have hend : (∀ j, j < 3 → nth3 x y z j = 0) → c = 0 := by
  intro h0
  have h1 := h0 0 (by omega)
  have h2 := h0 1 (by omega)
  have h3 := h0 2 (by omega)
  simp only [nth3] at h1 h2 h3
  rw [hc]; unfold or3; simp [h1, h2, h3]
 have hat : ∀ k, k < 3 → (∀ j, j < k → nth3 x y z j = 0) → nth3 x y z k ≠ 0 → c = nth3 x y z k := by
  intro k hk h0 hne
  rw [hc]
  have hk3 : k = 0 ∨ k = 1 ∨ k = 2 := by omega
  rcases hk3 with rfl | rfl | rfl
  · simp only [nth3] at hne ⊢; unfold or3; rw [if_neg hne]
  · have h1 := h0 0 (by omega); simp only [nth3] at hne h1 ⊢; unfold or3; rw [if_pos h1, if_neg hne]
  · have h1 := h0 0 (by omega); have h2 := h0 1 (by omega); simp only [nth3] at hne h1 h2 ⊢; unfold or3; rw [if_pos h1, if_pos h2]
 replace hc := hidI hc
 replace h := hidI h
 replace hat := hidI hat
 replace hend := hidI hend
 go_enter Tryz.func158, Tryz.ntmps158
 go_wp2
 go_loopg [8] 3 (fun g i wr => ∃ k : Nat, k + g = 3 ∧ i = .int .i64 k ∧ Hid (∀ j, j < k → nth3 x y z j = 0) ∧ Hid (wr = w))
 case atStart => exact ⟨0, by omega, rfl, hidI (fun j h => by omega), hidI rfl⟩
 case round =>
  obtain ⟨k, hk, rfl, he, hwr⟩ := hrel
  have hwr' := hwr.out.symm
  subst hwr'
  by_cases hlt : k < 3
  · have hcx := h.out k hlt
    obtain ⟨v, hv⟩ := exq (nth3 x y z k)
    rw [← hv] at hcx
    have hki : (k : Int) < 3 := by omega
    by_cases h1 : v = 0
    · have hn : ∀ j, j < k + 1 → nth3 x y z j = 0 := by
       intro j hj
       by_cases hjk : j = k
       · subst hjk; omega
       · exact he.out j (by omega)
      have t1 : (v != 0) = false := by rw [bne_eq_false_iff_eq]; exact h1
      replace hn := hidI hn
      replace hv := hidI hv
      replace hk := hidI hk
      replace h1 := hidI h1
      go_wp2
      go_roundg (3 - (k + 1))
      case rel => exact ⟨k + 1, by have := hk.out; omega, by go_num, hn, hidI rfl⟩
      case measure => have := hk.out; omega
    · have hfin : c = v := by rw [hv]; exact hat.out k hlt he.out (by rw [← hv]; exact h1)
      have t1 : (v != 0) = true := by rw [bne_iff_ne]; exact h1
      replace hfin := hidI hfin
      replace hv := hidI hv
      replace hk := hidI hk
      replace h1 := hidI h1
      go_wp2
      go_ret
      exact ⟨ret_i hfin.out.symm, rfl⟩
  · obtain rfl : k = 3 := by omega
    have hfin := hidI (hend.out he.out)
    go_wp2
    go_ret
    exact ⟨ret_i hfin.out.symm, rfl⟩
set_option maxRecDepth 100000 in
set_option maxHeartbeats 1600000 in
theorem progCmpE (w : World) (f l t f' l' t' : Int) :
 Calls Tryz.prog 127 #[.agg #[.int .i64 f, .int .i64 l, .int .i64 t], .agg #[.int .i64 f', .int .i64 l', .int .i64 t']] w (LwInt w (cmpE (f, l, t) (f', l', t'))) := by
 obtain ⟨c, hc⟩ := exq (cmpE (f, l, t) (f', l', t'))
 have hor := cmpE_or f l t f' l' t'
 rw [← hc] at hor ⊢
 obtain ⟨w1, hw1⟩ := exq ((w.alloc (.cells #[.int .i64 f, .int .i64 l, .int .i64 t] 72)).alloc (.cells #[.int .i64 f', .int .i64 l', .int .i64 t'] 72))
 have hb1 : Below w.heap.size w w1 := by rw [hw1]; exact ((Below.refl _ _).alloc (Nat.le_refl _) _).alloc (by simp) _
 have hg := heap_box w (.cells #[.int .i64 f, .int .i64 l, .int .i64 t] 72) (.cells #[.int .i64 f', .int .i64 l', .int .i64 t'] 72)
 have hh := heap_alloc_new (w.alloc (.cells #[.int .i64 f, .int .i64 l, .int .i64 t] 72)) (.cells #[.int .i64 f', .int .i64 l', .int .i64 t'] 72)
 rw [← hw1] at hg hh
 rw [show (w.alloc (.cells #[.int .i64 f, .int .i64 l, .int .i64 t] 72)).heap.size = w.heap.size + 1 by simp] at hh
 obtain ⟨g0, g1, g2⟩ := cell3 hg
 obtain ⟨k0, k1, k2⟩ := cell3 hh
 simp at g0 g1 g2 k0 k1 k2
 obtain ⟨x, hx⟩ := exq (sgnI f f')
 obtain ⟨y, hy⟩ := exq (sgnI l l')
 obtain ⟨z, hz⟩ := exq (sgnI t t')
 have e1 := fun W => gpCmp W f f'
 have e2 := fun W => gpCmp W l l'
 have e3 := fun W => gpCmp W t t'
 rw [← hx, ← hy, ← hz] at hor
 rw [← hx] at e1
 rw [← hy] at e2
 rw [← hz] at e3
 replace hc := hidI hc
 replace hw1 := hidI hw1
 replace hor := hidI hor
 replace hx := hidI hx
 replace hy := hidI hy
 replace hz := hidI hz
 clear hg hh
 go_enter Tryz.func127, Tryz.ntmps127
 go_wp2
 rw [← hw1.out]
 refine wp_region_still_tail 15 (by kernel_rfl) (by kernel_rfl) ?_
 simp only [List.take_succ_cons, List.take_zero, List.drop_succ_cons, List.drop_zero]
 repeat still_step
 still_call (e1 _)
 repeat still_step
 still_call (e2 _)
 repeat still_step
 still_call (e3 _)
 refine wpStill_nil ?_
 change wpList _ _ _ _ _ w1.drew
 obtain ⟨w2, hw2⟩ := exq w1.drew
 rw [← hw2]
 have hb2 : Below w.heap.size w w2 := by rw [hw2]; exact below_dn hb1 1
 obtain ⟨w3, hw3⟩ := exq (w2.alloc (.cells #[.int .i64 x, .int .i64 y, .int .i64 z] 3))
 have hb3 : Below w.heap.size w w3 := by rw [hw3]; exact hb2.alloc hb2.size _
 have hh3 := heap_alloc_new w2 (.cells #[.int .i64 x, .int .i64 y, .int .i64 z] 3)
 rw [← hw3] at hh3
 have hcall := or3_any w3 w2.heap.size x y z (by
  intro k hk
  have hk3 : k = 0 ∨ k = 1 ∨ k = 2 := by omega
  have h2 := cell_of_heap hh3 k
  simp at h2
  rcases hk3 with rfl | rfl | rfl <;> simpa [nth3] using h2)
 replace hw2 := hidI hw2
 replace hw3 := hidI hw3
 clear hh3 g0 g1 g2 k0 k1 k2 e1 e2 e3
 go_wp2_with fail
 rw [← hw3.out]
 refine hcall.mono ?_
 rintro e w4 ⟨rfl, rfl⟩
 go_wp2
 go_ret
 exact ⟨ret_i hor.out.symm, hb3⟩
set_option linter.unusedSimpArgs false
theorem gpVertex (w : World) (r s x : Int) (a : Option Addr) (n cap : Nat) : Calls Tryz.prog 172 #[.agg #[.int .i64 r, .int .i64 s, .slice a n cap], .int .i64 x] w (LwBool w (decide (0 ≤ x ∧ x < s))) := by
 obtain ⟨b, hb⟩ := exq (decide (0 ≤ x ∧ x < s))
 rw [← hb]
 have hbl : Below w.heap.size w (w.alloc (.cells #[.int .i64 r, .int .i64 s, .slice a n cap] 26)) := (Below.refl _ _).alloc (Nat.le_refl _) _
 by_cases h1 : 0 ≤ x
 · have d1 : decide (0 ≤ x) = true := by simp [h1]
   by_cases h2 : x < s
   · have hbb : b = true := by rw [hb, decide_eq_true_eq]; exact ⟨h1, h2⟩
     have d2 : decide (x < s) = true := by simp [h2]
     replace hb := hidI hb
     replace hbb := hidI hbb
     go_enter Tryz.func172, Tryz.ntmps172
     go_wp2
     go_ret
     exact ⟨ret_bool hbb.out.symm, hbl⟩
   · have hbb : b = false := by rw [hb, decide_eq_false_iff_not]; exact fun h => h2 h.2
     have d2 : decide (x < s) = false := by simp; omega
     replace hb := hidI hb
     replace hbb := hidI hbb
     go_enter Tryz.func172, Tryz.ntmps172
     go_wp2
     go_ret
     exact ⟨ret_bool hbb.out.symm, hbl⟩
 · have hbb : b = false := by rw [hb, decide_eq_false_iff_not]; exact fun h => h1 h.1
   have d1 : decide (0 ≤ x) = false := by simp; omega
   replace hb := hidI hb
   replace hbb := hidI hbb
   go_enter Tryz.func172, Tryz.ntmps172
   go_wp2
   go_ret
   exact ⟨ret_bool hbb.out.symm, hbl⟩
theorem gpLetter (w : World) (r x : Int) (hr1 : 1 ≤ r) (hr3 : r ≤ 3) (hx : 0 < x) : Calls Tryz.prog 173 #[.int .i64 r, .int .i64 x] w fun e w' => e = .returned (.bool (decide (x ≤ r))) ∧ w = w' := by
 obtain ⟨b, hb⟩ := exq (decide (x ≤ r))
 have g0 : (x != 0) = true := by rw [bne_iff_ne]; omega
 have g1 : decide (-r ≤ x) = true := by simp; omega
 rw [← hb]
 by_cases h2 : x ≤ r
 · have hbb : b = true := by rw [hb]; simp [h2]
   have d2 : decide (x ≤ r) = true := by simp [h2]
   replace hb := hidI hb
   replace hbb := hidI hbb
   go_enter Tryz.func173, Tryz.ntmps173
   go_wp2
   go_ret
   exact ⟨ret_bool hbb.out.symm, rfl⟩
 · have hbb : b = false := by rw [hb]; simp; omega
   have d2 : decide (x ≤ r) = false := by simp; omega
   replace hb := hidI hb
   replace hbb := hidI hbb
   go_enter Tryz.func173, Tryz.ntmps173
   go_wp2
   go_ret
   exact ⟨ret_bool hbb.out.symm, rfl⟩
set_option maxHeartbeats 6400000 in
theorem gpFits (w : World) (r s : Int) (a : Option Addr) (n cap : Nat) (f l t : Int) (hr : 1 ≤ r ∧ r ≤ 3) (hs : 1 ≤ s ∧ s ≤ 40) :
 Calls Tryz.prog 143 #[.agg #[.int .i64 r, .int .i64 s, .slice a n cap], .agg #[.int .i64 f, .int .i64 l, .int .i64 t]] w (LwBool w (edgeOk r s (f, l, t))) := by
 have hq : wrap64 (s - 1) = s - 1 := by unfold wrap64; omega
 have hok : edgeOk r s (f, l, t) = (decide (0 ≤ f ∧ f < s) && decide (0 ≤ t ∧ t < s) && decide (1 ≤ l ∧ l ≤ r)) := by
  unfold edgeOk
  rw [hq]
  simp only
  rw [show decide (0 ≤ f ∧ f ≤ s - 1) = decide (0 ≤ f ∧ f < s) by rw [decide_eq_decide]; omega, show decide (0 ≤ t ∧ t ≤ s - 1) = decide (0 ≤ t ∧ t < s) by rw [decide_eq_decide]; omega]
 obtain ⟨F, hF⟩ := exq (edgeOk r s (f, l, t))
 rw [← hF] at hok ⊢
 obtain ⟨w1, hw1⟩ := exq ((w.alloc (.cells #[.int .i64 r, .int .i64 s, .slice a n cap] 26)).alloc (.cells #[.int .i64 f, .int .i64 l, .int .i64 t] 72))
 have hb1 : Below w.heap.size w w1 := by rw [hw1]; exact ((Below.refl _ _).alloc (Nat.le_refl _) _).alloc (by simp) _
 have hg := heap_box w (.cells #[.int .i64 r, .int .i64 s, .slice a n cap] 26) (.cells #[.int .i64 f, .int .i64 l, .int .i64 t] 72)
 have hh := heap_alloc_new (w.alloc (.cells #[.int .i64 r, .int .i64 s, .slice a n cap] 26)) (.cells #[.int .i64 f, .int .i64 l, .int .i64 t] 72)
 rw [← hw1] at hg hh
 rw [show (w.alloc (.cells #[.int .i64 r, .int .i64 s, .slice a n cap] 26)).heap.size = w.heap.size + 1 by simp] at hh
 have hlt1 : w.heap.size + 1 < w1.heap.size := by rw [hw1]; simp
 have hlt0 : w.heap.size < w1.heap.size := by omega
 obtain ⟨q0, q1, q2⟩ := cell3 hg
 obtain ⟨q3, q4, q5⟩ := cell3 hh
 simp at q0 q1 q2 q3 q4 q5
 have hv1 := gpVertex w1 r s f a n cap
 obtain ⟨b1, he1⟩ := exq (decide (0 ≤ f ∧ f < s))
 obtain ⟨b2, he2⟩ := exq (decide (0 ≤ t ∧ t < s))
 rw [← he1] at hv1 hok
 rw [← he2] at hok
 replace hF := hidI hF
 replace hw1 := hidI hw1
 replace he1 := hidI he1
 replace he2 := hidI he2
 replace hok := hidI hok
 clear hg hh hq
 go_enter Tryz.func143, Tryz.ntmps143
 go_wp2_with fail
 rw [← hw1.out]
 refine hv1.mono ?_
 rintro e w2 ⟨rfl, hb2'⟩
 have p0 := below_cell q0 hb2' hlt0
 have p1 := below_cell q1 hb2' hlt0
 have p2 := below_cell q2 hb2' hlt0
 have p3 := below_cell q3 hb2' hlt1
 have p4 := below_cell q4 hb2' hlt1
 have p5 := below_cell q5 hb2' hlt1
 have hb2 := hb1.trans (hb2'.mono hb1.size)
 cases b1 with
 | false =>
  go_wp2
  go_ret
  exact ⟨ret_bool (by rw [hok.out]; simp), hb2⟩
 | true =>
  have hv2 := gpVertex w2 r s t a n cap
  rw [← he2.out] at hv2
  go_wp2_with fail
  refine hv2.mono ?_
  rintro e w3 ⟨rfl, hb3'⟩
  have hbq := hb2'.trans (hb3'.mono hb2'.size)
  have hb3 := hb2.trans (hb3'.mono hb2.size)
  clear p0 p1 p2 p3 p4 p5
  have p0 := below_cell q0 hbq hlt0
  have p1 := below_cell q1 hbq hlt0
  have p2 := below_cell q2 hbq hlt0
  have p3 := below_cell q3 hbq hlt1
  have p4 := below_cell q4 hbq hlt1
  have p5 := below_cell q5 hbq hlt1
  cases b2 with
  | false =>
   go_wp2
   go_ret
   exact ⟨ret_bool (by rw [hok.out]; simp), hb3⟩
  | true =>
   by_cases hl0 : 0 < l
   · obtain ⟨b3, he3⟩ := exq (decide (l ≤ r))
     have hfin : F = b3 := by rw [hok.out, he3]; simp; omega
     have d1 : decide (0 < l) = true := by simp [hl0]
     have hv3 := gpLetter w3 r l hr.1 hr.2 hl0
     rw [← he3] at hv3
     replace he3 := hidI he3
     replace hfin := hidI hfin
     go_wp2_with fail
     refine hv3.mono ?_
     rintro e w4 ⟨rfl, rfl⟩
     go_wp2
     go_ret
     exact ⟨ret_bool hfin.out.symm, hb3⟩
   · have hfin : F = false := by rw [hok.out]; simp; omega
     have d1 : decide (0 < l) = false := by simp; omega
     replace hfin := hidI hfin
     go_wp2
     go_ret
     exact ⟨ret_bool hfin.out.symm, hb3⟩
set_option maxHeartbeats 6400000 in
theorem progIsGr (w : World) (r s : Int) (v : Value) (es : List Ed) (h : ReadE w.heap.size w v es) (hl : es.length ≤ 1000000000) :
 Calls Tryz.prog 110 #[.agg #[.int .i64 r, .int .i64 s, v]] w (LwBool w (isGr r s es)) := by
 obtain ⟨a, cap, rfl, hnc⟩ := h.form
 obtain ⟨n, hn⟩ := exq es.length
 rw [← hn] at hl hnc ⊢
 rw [← hn] at h
 obtain ⟨w1, hw1⟩ := exq (w.alloc (.cells #[.int .i64 r, .int .i64 s, .slice a n cap] 26))
 have hb1 : Below w.heap.size w w1 := by rw [hw1]; exact (Below.refl _ _).alloc (Nat.le_refl _) _
 have hs1 : w.heap.size < w1.heap.size := by rw [hw1]; simp
 obtain ⟨g0, g1, g2⟩ := box3 hw1
 have hrd := hidI ((h.below hb1).mono hb1.size)
 obtain ⟨F, hF⟩ := exq (isGr r s es)
 rw [← hF]
 have hif : F = true ↔ (∀ i, i < es.length → placeOk r s es i = true) ∧ 1 ≤ r ∧ r ≤ 3 ∧ 1 ≤ s ∧ s ≤ 40 ∧ es.length ≤ 120 := by rw [hF]; exact isGr_iff
 rw [← hn] at hif
 have hno : ¬ ((∀ i, i < n → placeOk r s es i = true) ∧ 1 ≤ r ∧ r ≤ 3 ∧ 1 ≤ s ∧ s ≤ 40 ∧ n ≤ 120) → F = false := by
  intro hq
  cases hF2 : F with
  | false => rfl
  | true => exact absurd (hif.1 hF2) hq
 have i1 := gpRank w1 r
 obtain ⟨b1, hb1e⟩ := exq (decide (1 ≤ r ∧ r ≤ 3))
 rw [← hb1e] at i1
 replace hn := hidI hn
 replace hw1 := hidI hw1
 replace h := hidI h
 replace hF := hidI hF
 replace hif := hidI hif
 replace hno := hidI hno
 go_enter Tryz.func110, Tryz.ntmps110
 go_wp2_with fail
 rw [← hw1.out]
 refine i1.mono ?_
 rintro e w2 ⟨rfl, rfl⟩
 cases b1 with
 | false =>
  have hfin : F = false := hno.out (by have := of_decide_eq_false hb1e.symm; omega)
  replace hfin := hidI hfin
  replace hb1e := hidI hb1e
  go_wp2
  go_ret
  exact ⟨ret_bool hfin.out.symm, hb1⟩
 | true =>
 have hr := of_decide_eq_true hb1e.symm
 replace hb1e := hidI hb1e
 by_cases h2 : s < 1
 · have hfin : F = false := hno.out (by omega)
   have d2 : decide (s < 1) = true := by simp [h2]
   replace hfin := hidI hfin
   go_wp2
   go_ret
   exact ⟨ret_bool hfin.out.symm, hb1⟩
 have d2 : decide (s < 1) = false := by simp; omega
 by_cases h3 : 40 < s
 · have hfin : F = false := hno.out (by omega)
   have d3 : decide (40 < s) = true := by simp [h3]
   replace hfin := hidI hfin
   go_wp2
   go_ret
   exact ⟨ret_bool hfin.out.symm, hb1⟩
 have d3 : decide (40 < s) = false := by simp; omega
 by_cases h4 : 120 < n
 · have hfin : F = false := hno.out (by omega)
   have d4 : decide ((120 : Int) < (n : Int)) = true := by simp; omega
   replace hfin := hidI hfin
   go_wp2
   go_ret
   exact ⟨ret_bool hfin.out.symm, hb1⟩
 have d4 : decide ((120 : Int) < (n : Int)) = false := by simp; omega
 have hs : 1 ≤ s ∧ s ≤ 40 := by omega
 have hn120 : n ≤ 120 := by omega
 go_wp2
 clear d2 d3 d4 h2 h3 h4
 go_loopg [28] n (fun g i wr => ∃ k : Nat, k + g = n ∧ i = .int .i64 k ∧ Hid (∀ j, j < k → placeOk r s es j = true) ∧ Hid (Below w1.heap.size w1 wr))
 case atStart => exact ⟨0, by omega, rfl, hidI (fun j h => by omega), hidI (Below.refl _ _)⟩
 case round =>
  obtain ⟨k, hk, rfl, hp, hb⟩ := hrel
  have hsz := hb.out.size
  by_cases hlt : k < n
  · obtain ⟨b, off, hab, hB, c0, c1, c2⟩ := ReadE.at3 (hrd.out.below hb.out) k (by have := hn.out; omega)
    obtain ⟨ef, hef⟩ := exq ((es.getD k e0).1)
    obtain ⟨el, hel⟩ := exq ((es.getD k e0).2.1)
    obtain ⟨et, het⟩ := exq ((es.getD k e0).2.2)
    rw [← hef] at c0
    rw [← hel] at c1
    rw [← het] at c2
    have hke : es.getD k e0 = (ef, el, et) := by rw [hef, hel, het]
    have hki : (k : Int) < (n : Int) := by omega
    subst hab
    obtain ⟨wn, hwn⟩ := exq (wr.alloc (.cells #[.int .i64 ef, .int .i64 el, .int .i64 et] 72))
    obtain ⟨q3, q4, q5⟩ := box3 hwn
    have hbn : Below wr.heap.size wr wn := by rw [hwn]; exact (Below.refl _ _).alloc (Nat.le_refl _) _
    have hbx : wr.heap.size < wn.heap.size := by rw [hwn]; simp
    have hbw : w.heap.size < wn.heap.size := by omega
    have hbl : b < wn.heap.size := by omega
    have u0 := below_cell g0 hb.out hs1
    have u1 := below_cell g1 hb.out hs1
    have u2 := below_cell g2 hb.out hs1
    have q0 := below_cell u0 hbn (by omega)
    have q1 := below_cell u1 hbn (by omega)
    have q2 := below_cell u2 hbn (by omega)
    have hce := gpFits wn.drew r s (some ⟨b, off, none⟩) n cap ef el et hr hs
    obtain ⟨bo, hbo⟩ := exq (edgeOk r s (ef, el, et))
    rw [← hbo] at hce
    have hbad : bo = false → F = false := by
     intro h
     rw [hF.out]
     exact isGr_not (k := k) (by have := hn.out; omega) (by unfold placeOk; rw [hke, ← hbo, h]; rfl)
    have hdr := below_dn (Below.refl wn.heap.size wn) 1
    replace hbad := hidI hbad
    replace hef := hidI hef
    replace hel := hidI hel
    replace het := hidI het
    replace hwn := hidI hwn
    replace hk := hidI hk
    rcases Nat.eq_zero_or_pos k with hk0 | hk0
    · subst hk0
      rw [Nat.zero_mul, Nat.add_zero] at c0 c1 c2
      have hnx : bo = true → ∀ j, j < 0 + 1 → placeOk r s es j = true := by
       intro h j hj
       obtain rfl : j = 0 := by omega
       unfold placeOk
       rw [hke, ← hbo, h]
       rfl
      have dk : decide ((0 : Int) < (0 : Int)) = false := by simp
      replace hbo := hidI hbo
      replace hke := hidI hke
      go_wp2
      rw [← hwn.out]
      clear c0 c1 c2 u0 u1 u2
      cases bo with
      | false =>
       have hfin := hidI (hbad.out rfl)
       replace hnx := hidI hnx
       refine hideQ (fun _ _ d _ _ h => by cases d <;> exact h) (fun Q' hnorm hpan => ?_)
       refine wp_region_held_drew (S := (fun z => z.cell? ⟨w.heap.size, 0, none⟩ = some (.int .i64 r) ∧ z.cell? ⟨w.heap.size, 1, none⟩ = some (.int .i64 s) ∧ z.cell? ⟨w.heap.size, 2, none⟩ = some (.slice (some ⟨b, off, none⟩) n cap) ∧ z.cell? ⟨wr.heap.size, 0, none⟩ = some (.int .i64 ef) ∧ z.cell? ⟨wr.heap.size, 1, none⟩ = some (.int .i64 el) ∧ z.cell? ⟨wr.heap.size, 2, none⟩ = some (.int .i64 et))) (by kernel_rfl) ?_ (fun hHeld => ?_)
       · try dsimp only
         ((repeat' apply And.intro) <;> assumption)
       refine tk 0 33 ?_
       refine tk 1 34 ?_
       refine rd 2 (fun K hK => ?_)
       rw [if_pos (by rfl)]
       go_simp
       go_at_call 143
       (with_reducible refine hce.mono ?_)
       rintro e w2 ⟨rfl, hb2'⟩
       have hbq := hdr.trans hb2'
       have p0 := below_cell q0 hbq hbw
       have p1 := below_cell q1 hbq hbw
       have p2 := below_cell q2 hbq hbw
       have p3 := below_cell q3 hbq hbx
       have p4 := below_cell q4 hbq hbx
       have p5 := below_cell q5 hbq hbx
       clear hce
       refine hK.out _ _ ?_ (fun hHeld => ?_)
       · try dsimp only
         ((repeat' apply And.intro) <;> assumption)
       clear hK
       try simp only [Act.put, lyA, lyB, lyC]
       refine tk 3 36 ?_
       refine tk 4 37 ?_
       refine tn 5 38 ?_
       refine tn 6 39 ?_
       refine tn 7 40 ?_
       refine tn 8 41 ?_
       refine tn 9 42 ?_
       refine tn 10 43 ?_
       refine tn 11 44 ?_
       refine tn 12 45 ?_
       refine tn 13 46 ?_
       refine tn 14 47 ?_
       refine tn 15 48 ?_
       refine tn 16 49 ?_
       refine tn 17 50 ?_
       refine tk 18 51 ?_
       refine wpAnyH_done (by kernel_rfl) ?_ _
       refine hnorm _ _ ?_
       clear hnorm hpan
       repeat clear hHeld
       try simp only [Exit.then]
       have hbz := hb1.trans ((hb.out.trans ((hbn.trans (hbq.mono hbn.size)).mono hsz)).mono hb1.size)
       clear hbq hb2'
       go_wp2
       go_ret
       exact ⟨ret_bool hfin.out.symm, hbz⟩
      | true =>
       replace hnx := hidI (hnx rfl)
       refine hideQ (fun _ _ d _ _ h => by cases d <;> exact h) (fun Q' hnorm hpan => ?_)
       refine wp_region_held_drew (S := (fun z => z.cell? ⟨w.heap.size, 0, none⟩ = some (.int .i64 r) ∧ z.cell? ⟨w.heap.size, 1, none⟩ = some (.int .i64 s) ∧ z.cell? ⟨w.heap.size, 2, none⟩ = some (.slice (some ⟨b, off, none⟩) n cap) ∧ z.cell? ⟨wr.heap.size, 0, none⟩ = some (.int .i64 ef) ∧ z.cell? ⟨wr.heap.size, 1, none⟩ = some (.int .i64 el) ∧ z.cell? ⟨wr.heap.size, 2, none⟩ = some (.int .i64 et))) (by kernel_rfl) ?_ (fun hHeld => ?_)
       · try dsimp only
         ((repeat' apply And.intro) <;> assumption)
       refine tk 0 33 ?_
       refine tk 1 34 ?_
       refine rd 2 (fun K hK => ?_)
       rw [if_pos (by rfl)]
       go_simp
       go_at_call 143
       (with_reducible refine hce.mono ?_)
       rintro e w2 ⟨rfl, hb2'⟩
       have hbq := hdr.trans hb2'
       have p0 := below_cell q0 hbq hbw
       have p1 := below_cell q1 hbq hbw
       have p2 := below_cell q2 hbq hbw
       have p3 := below_cell q3 hbq hbx
       have p4 := below_cell q4 hbq hbx
       have p5 := below_cell q5 hbq hbx
       clear hce
       refine hK.out _ _ ?_ (fun hHeld => ?_)
       · try dsimp only
         ((repeat' apply And.intro) <;> assumption)
       clear hK
       try simp only [Act.put, lyA, lyB, lyC]
       refine tk 3 36 ?_
       refine tk 4 37 ?_
       refine tg 5 38 ?_
       refine tg 6 39 ?_
       refine tg 7 40 ?_
       refine tn 8 41 ?_
       refine tn 9 42 ?_
       refine tn 10 43 ?_
       refine tn 11 44 ?_
       refine tn 12 45 ?_
       refine tn 13 46 ?_
       refine tn 14 47 ?_
       refine tn 15 48 ?_
       refine tn 16 49 ?_
       refine tg 17 50 ?_
       refine tk 18 51 ?_
       refine wpAnyH_done (by kernel_rfl) ?_ _
       refine hnorm _ _ ?_
       clear hnorm hpan
       repeat clear hHeld
       try simp only [Exit.then]
       have hbz := hidI (hb.out.trans ((hbn.trans (hbq.mono hbn.size)).mono hsz))
       clear hbq hb2'
       go_wp2
       go_roundg (n - (0 + 1))
       case rel => exact ⟨0 + 1, by have := hk.out; omega, by go_num, hnx, hbz⟩
       case measure => have := hk.out; omega
    · obtain ⟨kp, hkp⟩ : ∃ i, k = i + 1 := ⟨k - 1, by omega⟩
      obtain ⟨b', off', hab', _, d0', d1', d2'⟩ := ReadE.at3 (hrd.out.below hb.out) kp (by have := hn.out; omega)
      cases hab'
      have d0 := below_cell d0' hbn (by omega)
      have d1 := below_cell d1' hbn (by omega)
      have d2 := below_cell d2' hbn (by omega)
      obtain ⟨df, hdf⟩ := exq ((es.getD kp e0).1)
      obtain ⟨dl, hdl⟩ := exq ((es.getD kp e0).2.1)
      obtain ⟨dt, hdt⟩ := exq ((es.getD kp e0).2.2)
      rw [← hdf] at d0
      rw [← hdl] at d1
      rw [← hdt] at d2
      have hkd : es.getD kp e0 = (df, dl, dt) := by rw [hdf, hdl, hdt]
      obtain ⟨cv, hcv⟩ := exq (cmpE (df, dl, dt) (ef, el, et))
      have hpl : bo = true → placeOk r s es k = decide (cv < 0) := by
       intro h
       unfold placeOk
       rw [show k - 1 = kp by omega, hke, hkd, ← hbo, ← hcv, h]
       simp
       omega
      have hk1 : (0 : Int) < (k : Int) := by omega
      have hk2 : (k : Int) > 0 := by omega
      have dk : decide ((0 : Int) < (k : Int)) = true := by simp; omega
      have hk3 : (k : Int) - 1 = (kp : Int) := by omega
      have hk4 : (kp : Int) < (n : Int) := by omega
      have hwk2 : IntKind.i64.wrap (kp : Int) = (kp : Int) := IntWalk.i64_in _ (by omega)
      replace hkp := hidI hkp
      replace hbo := hidI hbo
      replace hke := hidI hke
      replace hkd := hidI hkd
      replace hdf := hidI hdf
      replace hdl := hidI hdl
      replace hdt := hidI hdt
      replace hcv := hidI hcv
      go_wp2
      rw [← hwn.out]
      clear c0 c1 c2 u0 u1 u2 d0' d1' d2'
      cases bo with
      | false =>
       have hfin := hidI (hbad.out rfl)
       replace hpl := hidI hpl
       refine hideQ (fun _ _ d _ _ h => by cases d <;> exact h) (fun Q' hnorm hpan => ?_)
       refine wp_region_held_drew (S := (fun z => z.cell? ⟨w.heap.size, 0, none⟩ = some (.int .i64 r) ∧ z.cell? ⟨w.heap.size, 1, none⟩ = some (.int .i64 s) ∧ z.cell? ⟨w.heap.size, 2, none⟩ = some (.slice (some ⟨b, off, none⟩) n cap) ∧ z.cell? ⟨wr.heap.size, 0, none⟩ = some (.int .i64 ef) ∧ z.cell? ⟨wr.heap.size, 1, none⟩ = some (.int .i64 el) ∧ z.cell? ⟨wr.heap.size, 2, none⟩ = some (.int .i64 et) ∧ z.cell? ⟨b, off + kp * 3, none⟩ = some (.int .i64 df) ∧ z.cell? ⟨b, off + kp * 3 + 1, none⟩ = some (.int .i64 dl) ∧ z.cell? ⟨b, off + kp * 3 + 2, none⟩ = some (.int .i64 dt))) (by kernel_rfl) ?_ (fun hHeld => ?_)
       · try dsimp only
         ((repeat' apply And.intro) <;> assumption)
       refine tk 0 33 ?_
       refine tk 1 34 ?_
       refine rd 2 (fun K hK => ?_)
       rw [if_pos (by rfl)]
       go_simp
       go_at_call 143
       (with_reducible refine hce.mono ?_)
       rintro e w2 ⟨rfl, hb2'⟩
       have hbq := hdr.trans hb2'
       have p0 := below_cell q0 hbq hbw
       have p1 := below_cell q1 hbq hbw
       have p2 := below_cell q2 hbq hbw
       have p3 := below_cell q3 hbq hbx
       have p4 := below_cell q4 hbq hbx
       have p5 := below_cell q5 hbq hbx
       have p6 := below_cell d0 hbq hbl
       have p7 := below_cell d1 hbq hbl
       have p8 := below_cell d2 hbq hbl
       clear hce
       refine hK.out _ _ ?_ (fun hHeld => ?_)
       · try dsimp only
         ((repeat' apply And.intro) <;> assumption)
       clear hK
       try simp only [Act.put, lyA, lyB, lyC]
       refine tk 3 36 ?_
       refine tk 4 37 ?_
       refine tn 5 38 ?_
       refine tn 6 39 ?_
       refine tn 7 40 ?_
       refine tn 8 41 ?_
       refine tn 9 42 ?_
       refine tn 10 43 ?_
       refine tn 11 44 ?_
       refine tn 12 45 ?_
       refine tn 13 46 ?_
       refine tn 14 47 ?_
       refine tn 15 48 ?_
       refine tn 16 49 ?_
       refine tn 17 50 ?_
       refine tk 18 51 ?_
       refine wpAnyH_done (by kernel_rfl) ?_ _
       refine hnorm _ _ ?_
       clear hnorm hpan
       repeat clear hHeld
       try simp only [Exit.then]
       have hbz := hb1.trans ((hb.out.trans ((hbn.trans (hbq.mono hbn.size)).mono hsz)).mono hb1.size)
       clear hbq hb2'
       go_wp2
       go_ret
       exact ⟨ret_bool hfin.out.symm, hbz⟩
      | true =>
       have hpl2 := hpl rfl
       clear hpl
       by_cases hneg : cv < 0
       · have hnx : ∀ j, j < k + 1 → placeOk r s es j = true := by
          intro j hj
          by_cases hj2 : j = k
          · subst hj2; rw [hpl2]; simpa using hneg
          · exact hp.out j (by omega)
         have hneg2 : ¬ cv ≥ 0 := by omega
         have hneg3 : decide (0 ≤ cv) = false := by simp; omega
         replace hnx := hidI hnx
         replace hpl2 := hidI hpl2
         refine hideQ (fun _ _ d _ _ h => by cases d <;> exact h) (fun Q' hnorm hpan => ?_)
         refine wp_region_held_drew (S := (fun z => z.cell? ⟨w.heap.size, 0, none⟩ = some (.int .i64 r) ∧ z.cell? ⟨w.heap.size, 1, none⟩ = some (.int .i64 s) ∧ z.cell? ⟨w.heap.size, 2, none⟩ = some (.slice (some ⟨b, off, none⟩) n cap) ∧ z.cell? ⟨wr.heap.size, 0, none⟩ = some (.int .i64 ef) ∧ z.cell? ⟨wr.heap.size, 1, none⟩ = some (.int .i64 el) ∧ z.cell? ⟨wr.heap.size, 2, none⟩ = some (.int .i64 et) ∧ z.cell? ⟨b, off + kp * 3, none⟩ = some (.int .i64 df) ∧ z.cell? ⟨b, off + kp * 3 + 1, none⟩ = some (.int .i64 dl) ∧ z.cell? ⟨b, off + kp * 3 + 2, none⟩ = some (.int .i64 dt))) (by kernel_rfl) ?_ (fun hHeld => ?_)
         · try dsimp only
           ((repeat' apply And.intro) <;> assumption)
         refine tk 0 33 ?_
         refine tk 1 34 ?_
         refine rd 2 (fun K hK => ?_)
         rw [if_pos (by rfl)]
         go_simp
         go_at_call 143
         (with_reducible refine hce.mono ?_)
         rintro e w2 ⟨rfl, hb2'⟩
         have hbq := hdr.trans hb2'
         have p0 := below_cell q0 hbq hbw
         have p1 := below_cell q1 hbq hbw
         have p2 := below_cell q2 hbq hbw
         have p3 := below_cell q3 hbq hbx
         have p4 := below_cell q4 hbq hbx
         have p5 := below_cell q5 hbq hbx
         have p6 := below_cell d0 hbq hbl
         have p7 := below_cell d1 hbq hbl
         have p8 := below_cell d2 hbq hbl
         clear hce
         refine hK.out _ _ ?_ (fun hHeld => ?_)
         · try dsimp only
           ((repeat' apply And.intro) <;> assumption)
         clear hK
         try simp only [Act.put, lyA, lyB, lyC]
         refine tk 3 36 ?_
         refine tk 4 37 ?_
         refine tg 5 38 ?_
         refine tg 6 39 ?_
         refine tg 7 40 ?_
         refine tg 8 41 ?_
         refine tg 9 42 ?_
         refine tg 10 43 ?_
         refine tg 11 44 ?_
         refine tg 12 45 ?_
         refine tg 13 46 ?_
         refine tg 14 47 ?_
         refine rd 15 (fun K hK => ?_)
         rw [if_pos (by kernel_rfl)]
         go_simp
         have hcc := progCmpE w2 df dl dt ef el et
         rw [← hcv.out] at hcc
         go_at_call 127
         (with_reducible refine hcc.mono ?_)
         rintro e w3 ⟨rfl, hb3'⟩
         replace hbq := hbq.trans (hb3'.mono hbq.size)
         clear p0 p1 p2 p3 p4 p5 p6 p7 p8
         have p0 := below_cell q0 hbq hbw
         have p1 := below_cell q1 hbq hbw
         have p2 := below_cell q2 hbq hbw
         have p3 := below_cell q3 hbq hbx
         have p4 := below_cell q4 hbq hbx
         have p5 := below_cell q5 hbq hbx
         have p6 := below_cell d0 hbq hbl
         have p7 := below_cell d1 hbq hbl
         have p8 := below_cell d2 hbq hbl
         clear hcc
         refine hK.out _ _ ?_ (fun hHeld => ?_)
         · try dsimp only
           ((repeat' apply And.intro) <;> assumption)
         clear hK
         try simp only [Act.put, lyA, lyB, lyC]
         refine tg 16 49 ?_
         refine tg 17 50 ?_
         refine tk 18 51 ?_
         refine wpAnyH_done (by kernel_rfl) ?_ _
         refine hnorm _ _ ?_
         clear hnorm hpan
         repeat clear hHeld
         try simp only [Exit.then]
         have hbz := hidI (hb.out.trans ((hbn.trans (hbq.mono hbn.size)).mono hsz))
         clear hbq hb2'
         go_wp2
         go_roundg (n - (k + 1))
         case rel => exact ⟨k + 1, by have := hk.out; omega, by go_num, hnx, hbz⟩
         case measure => have := hk.out; omega
       · have hfin : F = false := by rw [hF.out]; exact isGr_not (k := k) (by have := hn.out; omega) (by rw [hpl2]; simpa using hneg)
         have hneg2 : cv ≥ 0 := by omega
         have hneg3 : decide (0 ≤ cv) = true := by simp; omega
         replace hfin := hidI hfin
         replace hpl2 := hidI hpl2
         refine hideQ (fun _ _ d _ _ h => by cases d <;> exact h) (fun Q' hnorm hpan => ?_)
         refine wp_region_held_drew (S := (fun z => z.cell? ⟨w.heap.size, 0, none⟩ = some (.int .i64 r) ∧ z.cell? ⟨w.heap.size, 1, none⟩ = some (.int .i64 s) ∧ z.cell? ⟨w.heap.size, 2, none⟩ = some (.slice (some ⟨b, off, none⟩) n cap) ∧ z.cell? ⟨wr.heap.size, 0, none⟩ = some (.int .i64 ef) ∧ z.cell? ⟨wr.heap.size, 1, none⟩ = some (.int .i64 el) ∧ z.cell? ⟨wr.heap.size, 2, none⟩ = some (.int .i64 et) ∧ z.cell? ⟨b, off + kp * 3, none⟩ = some (.int .i64 df) ∧ z.cell? ⟨b, off + kp * 3 + 1, none⟩ = some (.int .i64 dl) ∧ z.cell? ⟨b, off + kp * 3 + 2, none⟩ = some (.int .i64 dt))) (by kernel_rfl) ?_ (fun hHeld => ?_)
         · try dsimp only
           ((repeat' apply And.intro) <;> assumption)
         refine tk 0 33 ?_
         refine tk 1 34 ?_
         refine rd 2 (fun K hK => ?_)
         rw [if_pos (by rfl)]
         go_simp
         go_at_call 143
         (with_reducible refine hce.mono ?_)
         rintro e w2 ⟨rfl, hb2'⟩
         have hbq := hdr.trans hb2'
         have p0 := below_cell q0 hbq hbw
         have p1 := below_cell q1 hbq hbw
         have p2 := below_cell q2 hbq hbw
         have p3 := below_cell q3 hbq hbx
         have p4 := below_cell q4 hbq hbx
         have p5 := below_cell q5 hbq hbx
         have p6 := below_cell d0 hbq hbl
         have p7 := below_cell d1 hbq hbl
         have p8 := below_cell d2 hbq hbl
         clear hce
         refine hK.out _ _ ?_ (fun hHeld => ?_)
         · try dsimp only
           ((repeat' apply And.intro) <;> assumption)
         clear hK
         try simp only [Act.put, lyA, lyB, lyC]
         refine tk 3 36 ?_
         refine tk 4 37 ?_
         refine tg 5 38 ?_
         refine tg 6 39 ?_
         refine tg 7 40 ?_
         refine tg 8 41 ?_
         refine tg 9 42 ?_
         refine tg 10 43 ?_
         refine tg 11 44 ?_
         refine tg 12 45 ?_
         refine tg 13 46 ?_
         refine tg 14 47 ?_
         refine rd 15 (fun K hK => ?_)
         rw [if_pos (by kernel_rfl)]
         go_simp
         have hcc := progCmpE w2 df dl dt ef el et
         rw [← hcv.out] at hcc
         go_at_call 127
         (with_reducible refine hcc.mono ?_)
         rintro e w3 ⟨rfl, hb3'⟩
         replace hbq := hbq.trans (hb3'.mono hbq.size)
         clear p0 p1 p2 p3 p4 p5 p6 p7 p8
         have p0 := below_cell q0 hbq hbw
         have p1 := below_cell q1 hbq hbw
         have p2 := below_cell q2 hbq hbw
         have p3 := below_cell q3 hbq hbx
         have p4 := below_cell q4 hbq hbx
         have p5 := below_cell q5 hbq hbx
         have p6 := below_cell d0 hbq hbl
         have p7 := below_cell d1 hbq hbl
         have p8 := below_cell d2 hbq hbl
         clear hcc
         refine hK.out _ _ ?_ (fun hHeld => ?_)
         · try dsimp only
           ((repeat' apply And.intro) <;> assumption)
         clear hK
         try simp only [Act.put, lyA, lyB, lyC]
         refine tg 16 49 ?_
         refine tg 17 50 ?_
         refine tk 18 51 ?_
         refine wpAnyH_done (by kernel_rfl) ?_ _
         refine hnorm _ _ ?_
         clear hnorm hpan
         repeat clear hHeld
         try simp only [Exit.then]
         have hbz := hb1.trans ((hb.out.trans ((hbn.trans (hbq.mono hbn.size)).mono hsz)).mono hb1.size)
         clear hbq hb2'
         go_wp2
         go_ret
         exact ⟨ret_bool hfin.out.symm, hbz⟩
  · obtain rfl : k = n := by omega
    have hfin : F = true := hif.out.2 ⟨hp.out, hr.1, hr.2, hs.1, hs.2, hn120⟩
    have hki : ¬ (k : Int) < (k : Int) := by omega
    have hbz := hb1.trans (hb.out.mono hb1.size)
    replace hfin := hidI hfin
    replace hk := hidI hk
    go_wp2
    go_ret
    exact ⟨ret_bool hfin.out.symm, hbz⟩
set_option maxHeartbeats 800000 in
theorem gpClone (w : World) (v : Value) (es : List Ed) (h : ReadE w.heap.size w v es) (hl : es.length ≤ 1000000000) :
 Calls Tryz.prog 91 #[v] w (LwEdges w es) := by
 have hread := h
 obtain ⟨hzl, _, a, cap, rfl, ⟨hnil, _⟩, hr⟩ := h
 obtain ⟨n, hn⟩ := exq es.length
 rcases a with _ | ad
 · have hz : es = [] := by
    rcases hr with h0 | ⟨b, off, ha, _⟩
    · exact List.eq_nil_of_length_eq_zero h0
    · cases ha
   have hc0 := hnil rfl
   subst hc0
   subst hz
   have hr : LwEdges w [] (.returned (.slice none 0 0)) w := ⟨none, 0, rfl, ((OwnsS.nil _ _).row (by omega)).wide (Nat.le_refl _) (Nat.le_refl _), Below.refl _ _⟩
   replace hr := hidI hr
   have heq := fun W : World => Lib.run_eql_slice_nil (P := Tryz.prog) W 24 72 none 0 0 0 0 Tryz.underlying24
   clear hread hn hnil
   go_enter Tryz.func91, Tryz.ntmps91
   go_wp2
   go_ret
   exact hr.out
 · have hlit : OwnsE (w.alloc (.cells #[] 72)) w.heap.size (.slice (some ⟨w.heap.size, 0, none⟩) 0 0) [] := OwnsE.litE w
   have hb0 := (Below.refl w.heap.size w).alloc (Nat.le_refl _) (.cells #[] 72)
   have hx := hread.below hb0
   have hl3 : ([] : List Ed).length + es.length ≤ 1000000000 := by simp; omega
   have hl4 : es.length ≤ 1000000000000 := by omega
   replace hlit := hidI hlit
   replace hx := hidI hx
   replace hl4 := hidI hl4
   rw [← hn]
   replace hl3 := hidI hl3
   have hx' : Hid (ReadE w.heap.size (w.alloc (.cells #[] 72)) (.slice (some ad) n cap) es) := hidI (by rw [hn]; exact hx.out)
   clear hx
   replace hn := hidI hn
   replace hread := hidI hread
   clear hr hnil hzl
   have heq := fun W : World => Lib.run_eql_slice_nil (P := Tryz.prog) W 24 72 (some ad) n cap 0 0 Tryz.underlying24
   go_enter Tryz.func91, Tryz.ntmps91
   go_wp2_with (at_builtin; go_must (refine wpList_pushAllE rfl _ _ rfl w.heap.size _ _ [] es w.heap.size rfl rfl (by exact hlit.out) (by exact hx'.out) hl3.out (by simp) ?_))
   intro v1 w1 hown1 hb1'
   have hb1 := hb0.trans hb1'
   have hr : LwEdges w es (.returned v1) w1 := lwEdges_owns (by simpa using hown1) hb1 (Nat.le_refl _) hl4.out
   replace hr := hidI hr
   clear hown1 hb1' hlit hx' hb0 hb1
   go_wp2
   go_ret
   exact hr.out
theorem RowS.set3_ {T : TypeId} {sz n lo hi b : Nat} {w : World} {v x0 x1 x2 : Value} {zs : List Int} (h : RowS T sz w lo hi v n zs) (hb : b < lo ∨ hi ≤ b) : RowS T sz (((w.setCell ⟨b, 0, none⟩ x0).setCell ⟨b, 1, none⟩ x1).setCell ⟨b, 2, none⟩ x2) lo hi v n zs :=
 h.keep (fun k h1 h2 => by rw [Below.heap_setCell _ _ _ _ (show k ≠ b by omega), Below.heap_setCell _ _ _ _ (show k ≠ b by omega), Below.heap_setCell _ _ _ _ (show k ≠ b by omega)])
theorem below_set3 {B b : Nat} {w w' : World} {x0 x1 x2 : Value} (h : Below B w w') (hb : B ≤ b) : Below B w (((w'.setCell ⟨b, 0, none⟩ x0).setCell ⟨b, 1, none⟩ x1).setCell ⟨b, 2, none⟩ x2) :=
 ((h.setCell (p := ⟨b, 0, none⟩) hb _).setCell (p := ⟨b, 1, none⟩) hb _).setCell (p := ⟨b, 2, none⟩) hb _
theorem size_set3 {b : Nat} {w : World} {x0 x1 x2 : Value} : (((w.setCell ⟨b, 0, none⟩ x0).setCell ⟨b, 1, none⟩ x1).setCell ⟨b, 2, none⟩ x2).heap.size = w.heap.size := by simp [World.setCell]
theorem heap_set3 {b k : Nat} {w : World} {x0 x1 x2 : Value} (h : k ≠ b) : (((w.setCell ⟨b, 0, none⟩ x0).setCell ⟨b, 1, none⟩ x1).setCell ⟨b, 2, none⟩ x2).heap[k]? = w.heap[k]? := by
 rw [Below.heap_setCell _ _ _ _ h, Below.heap_setCell _ _ _ _ h, Below.heap_setCell _ _ _ _ h]
set_option maxHeartbeats 1600000 in
theorem gpCopy (w : World) (r s : Int) (v : Value) (es : List Ed) (h : ReadE w.heap.size w v es) (hl : es.length ≤ 1000000000) :
 Calls Tryz.prog 150 #[.agg #[.int .i64 r, .int .i64 s, v]] w (LwGraph w r s es) := by
 obtain ⟨a, cap, rfl, hnc⟩ := h.form
 obtain ⟨n, hn⟩ := exq es.length
 rw [← hn] at h hnc
 obtain ⟨w1, hw1⟩ := exq ((w.alloc (.cells #[.int .i64 r, .int .i64 s, .slice a n cap] 26)).alloc (.cells #[.int .i64 0, .int .i64 0, .slice none 0 0] 26))
 have hb1 : Below w.heap.size w w1 := by rw [hw1]; exact ((Below.refl _ _).alloc (Nat.le_refl _) _).alloc (by simp) _
 have hs1 : w1.heap.size = w.heap.size + 1 + 1 := by rw [hw1]; simp
 have hg := heap_box w (.cells #[.int .i64 r, .int .i64 s, .slice a n cap] 26) (.cells #[.int .i64 0, .int .i64 0, .slice none 0 0] 26)
 have hk := heap_alloc_new (w.alloc (.cells #[.int .i64 r, .int .i64 s, .slice a n cap] 26)) (.cells #[.int .i64 0, .int .i64 0, .slice none 0 0] 26)
 rw [← hw1] at hg hk
 rw [show (w.alloc (.cells #[.int .i64 r, .int .i64 s, .slice a n cap] 26)).heap.size = w.heap.size + 1 by simp] at hk
 have hrd1 := (h.below hb1).mono hb1.size
 rw [hn] at hrd1
 have hcl := gpClone w1 _ es hrd1 hl
 rw [← hn] at hcl ⊢
 replace hn := hidI hn
 replace h := hidI h
 replace hrd1 := hidI hrd1
 replace hs1 := hidI hs1
 replace hw1 := hidI hw1
 have g0 : w1.cell? ⟨w.heap.size, 0, none⟩ = some (.int .i64 r) := by simpa using cell_of_heap hg 0
 have g1 : w1.cell? ⟨w.heap.size, 1, none⟩ = some (.int .i64 s) := by simpa using cell_of_heap hg 1
 have g2 : w1.cell? ⟨w.heap.size, 2, none⟩ = some (.slice a n cap) := by simpa using cell_of_heap hg 2
 replace hg := hidI hg
 replace hk := hidI hk
 go_enter Tryz.func150, Tryz.ntmps150
 go_wp2_with fail
 rw [← hw1.out]
 refine hcl.mono ?_
 intro e w2 h2
 obtain ⟨b, cap2, rfl, hrow, hb2⟩ := h2
 rw [← hn.out]
 rw [← hn.out] at hrow
 have hk1 : w2.heap[w.heap.size]? = some (.cells #[.int .i64 r, .int .i64 s, .slice a n cap] 26 (0, 0)) := by rw [hb2.block _ (by have := hs1.out; omega)]; exact hg.out
 have hk2 : w2.heap[w.heap.size + 1]? = some (.cells #[.int .i64 0, .int .i64 0, .slice none 0 0] 26 (0, 0)) := by rw [hb2.block _ (by have := hs1.out; omega)]; exact hk.out
 obtain ⟨w3, hw3⟩ := exq (w2.setCell ⟨w.heap.size, 2, none⟩ (.slice b n cap2))
 obtain ⟨q0, q1, q2⟩ := cell3 hk1
 obtain ⟨k0, k1, k2⟩ := cell3 hk2
 have f1 := fun j => frozen_of_row w2 w.heap.size j _ _ hk1
 have f2 := fun j => frozen_of_row w2 (w.heap.size + 1) j _ _ hk2
 simp at q0 q1 q2 k0 k1 k2
 have hbz := hb1.trans (hb2.mono hb1.size)
 have hfin : LwGraph w r s es (.returned (.agg #[.int .i64 r, .int .i64 s, .slice b n cap2])) ((((w2.setCell ⟨w.heap.size, 2, none⟩ (.slice b n cap2)).setCell ⟨w.heap.size + 1, 0, none⟩ (.int .i64 r)).setCell ⟨w.heap.size + 1, 1, none⟩ (.int .i64 s)).setCell ⟨w.heap.size + 1, 2, none⟩ (.slice b n cap2)) := by
  have hs := hs1.out
  refine ⟨b, cap2, by rw [hn.out], ?_, below_set3 (hbz.setCell (p := ⟨w.heap.size, 2, none⟩) (Nat.le_refl _) _) (by omega)⟩
  have hrow' : RowS 72 3 (w2.setCell ⟨w.heap.size, 2, none⟩ (.slice b n cap2)) w1.heap.size w2.heap.size (.slice b n cap2) n (flatE es) := hrow.keep (fun k h1 h2 => Below.heap_setCell _ _ _ _ (show k ≠ w.heap.size by omega))
  rw [← hn.out]
  exact RowS.wide (hrow'.set3_ (.inl (by omega))) (by omega) (by rw [size_set3]; simp [World.setCell])
 have hky : (w2.setCell ⟨w.heap.size, 2, none⟩ (.slice b n cap2)).heap[w.heap.size + 1]? = some (.cells #[.int .i64 0, .int .i64 0, .slice none 0 0] 26 (0, 0)) := by
  rw [Below.heap_setCell _ _ _ _ (show w.heap.size + 1 ≠ w.heap.size by omega)]; exact hk2
 replace hfin := hidI hfin
 replace hky := hidI hky
 replace hk1 := hidI hk1
 replace hk2 := hidI hk2
 replace hw3 := hidI hw3
 replace hrow := hidI hrow
 clear g0 g1 g2
 go_wp2
 (try simp only [Exit.inBlock, Exit.then])
 refine ret_cell rfl (g := w.heap.size + 1) rfl (set3 hky.out _ _ _) Tryz.underlying26 sizeGraph ?_
 exact hfin.out
end Go.Proofs.YtpjlamnjiilgbaaGreat
