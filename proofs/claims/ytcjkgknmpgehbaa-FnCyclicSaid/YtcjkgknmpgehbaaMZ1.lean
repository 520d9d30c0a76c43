/- Plain mathematics of cyclic words: cores, cyclic forms, conjugate words. -/
import Derived.Test.YtcjkgknmpgehbaaMY
namespace Go.Proofs.Ytcjkgknmpgehbaa
open Go.RowKit
set_option linter.unusedVariables false

theorem getD_append_left {a b : List Int} {i : Nat} (h : i < a.length) : (a ++ b).getD i 0 = a.getD i 0 := by
  rw [List.getD_eq_getElem?_getD, List.getD_eq_getElem?_getD, List.getElem?_append_left h]
theorem getD_append_right {a b : List Int} {i : Nat} (h : a.length ≤ i) : (a ++ b).getD i 0 = b.getD (i - a.length) 0 := by
  rw [List.getD_eq_getElem?_getD, List.getD_eq_getElem?_getD, List.getElem?_append_right h]
theorem mid_getD {x : List Int} {i : Nat} (h : i < x.length - 2) : (mid x).getD i 0 = x.getD (i + 1) 0 := by
  unfold mid
  rw [List.getD_eq_getElem?_getD, List.getD_eq_getElem?_getD, List.getElem?_take, if_pos h, List.getElem?_drop, Nat.add_comm]
theorem ends_mid {x : List Int} (h : 1 < x.length) : x = [x.getD 0 0] ++ (mid x ++ [x.getD (x.length - 1) 0]) := by
  refine ext_getD (by simp [mid_length]; omega) (fun i hi => ?_)
  by_cases h0 : i = 0
  · subst h0
    rw [getD_append_left (by simp)]
    rfl
  · rw [getD_append_right (by simp; omega)]
    show _ = (mid x ++ [x.getD (x.length - 1) 0]).getD (i - 1) 0
    by_cases h1 : i - 1 < x.length - 2
    · rw [getD_append_left (by rw [mid_length]; exact h1), mid_getD h1]
      congr 1
      omega
    · rw [getD_append_right (by rw [mid_length]; omega), mid_length]
      have e : i - 1 - (x.length - 2) = 0 := by omega
      have e2 : i = x.length - 1 := by omega
      rw [e, e2]
      rfl
theorem sc_iff {x : List Int} : sc x = true ↔ 1 < x.length ∧ x.getD 0 0 = ng (x.getD (x.length - 1) 0) ∧ x.getD 0 0 ≠ ng (x.getD 0 0) := by unfold sc; rw [decide_eq_true_eq]
/-- The parts of a core make the word. -/
theorem coreF_prod : ∀ (f : Nat) {x p : List Int}, InR x → (coreF f x p).2 ++ ((coreF f x p).1 ++ invL (coreF f x p).2) = p ++ (x ++ invL p) := by
  intro f
  induction f with
  | zero => intro x p _; rfl
  | succ f ih =>
    intro x p hx
    cases h : sc x with
    | false => rw [coreF_no h]
    | true =>
      obtain ⟨h1, h2, h3⟩ := sc_iff.1 h
      rw [coreF_yes h, ih (mid_in hx)]
      have hl := hx.getD (x.length - 1) (by omega)
      have e : x.getD (x.length - 1) 0 = ng (x.getD 0 0) := by rw [h2, ng_ng hl]
      have e2 : invL (p ++ [x.getD 0 0]) = [ng (x.getD 0 0)] ++ invL p := by rw [invL_append]; rfl
      have e3 := ends_mid h1
      rw [e] at e3
      rw [e2]
      conv => rhs; rw [e3]
      simp only [List.append_assoc]
theorem coreF_end : ∀ (f : Nat) {x p : List Int}, x.length ≤ f → sc (coreF f x p).1 = false := by
  intro f
  induction f with
  | zero =>
    intro x p h
    show sc x = false
    have : x = [] := List.length_eq_zero_iff.1 (by omega)
    subst this
    rfl
  | succ f ih =>
    intro x p hx
    cases h : sc x with
    | false => rw [coreF_no h]; exact h
    | true =>
      obtain ⟨h1, _, _⟩ := sc_iff.1 h
      rw [coreF_yes h]
      exact ih (by rw [mid_length]; omega)
theorem coreL_prod {w : List Int} (h : InR w) : (coreL w).2 ++ ((coreL w).1 ++ invL (coreL w).2) = redL w := by
  have := coreF_prod (redL w).length (x := redL w) (p := []) (redL_in h)
  unfold coreL
  rw [this]
  simp [invL]
theorem coreL_end (w : List Int) : sc (coreL w).1 = false := coreF_end _ (Nat.le_refl _)
/-- The order of letters by a number. -/
def key (x : Int) : Int := 2 * (x.natAbs : Int) + if x < 0 then 1 else 0
theorem ordI_key {x y : Int} (hx : -9223372036854775808 ≤ x ∧ x ≤ 9223372036854775807) (hy : -9223372036854775808 ≤ y ∧ y ≤ 9223372036854775807) :
    (ordI x y < 0 ↔ key x < key y) ∧ (ordI x y = 0 ↔ x = y) := by
  obtain ⟨A, hA⟩ : ∃ A, A = max x (ng x) := ⟨_, rfl⟩
  obtain ⟨B, hB⟩ : ∃ B, B = max y (ng y) := ⟨_, rfl⟩
  have kA : (x = -9223372036854775808 ∧ A = -9223372036854775808) ∨ (x ≠ -9223372036854775808 ∧ A = (x.natAbs : Int)) := by
    by_cases h : x = -9223372036854775808
    · rw [h, ng_min] at hA; omega
    · rw [ng_of (by omega) hx.2] at hA; omega
  have kB : (y = -9223372036854775808 ∧ B = -9223372036854775808) ∨ (y ≠ -9223372036854775808 ∧ B = (y.natAbs : Int)) := by
    by_cases h : y = -9223372036854775808
    · rw [h, ng_min] at hB; omega
    · rw [ng_of (by omega) hy.2] at hB; omega
  have kx : key x = 2 * (x.natAbs : Int) + 1 ∧ x < 0 ∨ key x = 2 * (x.natAbs : Int) ∧ 0 ≤ x := by
    unfold key
    by_cases h : x < 0
    · rw [if_pos h]; omega
    · rw [if_neg h]; omega
  have ky : key y = 2 * (y.natAbs : Int) + 1 ∧ y < 0 ∨ key y = 2 * (y.natAbs : Int) ∧ 0 ≤ y := by
    unfold key
    by_cases h : y < 0
    · rw [if_pos h]; omega
    · rw [if_neg h]; omega
  generalize key x = K at kx ⊢
  generalize key y = M at ky ⊢
  unfold ordI
  rw [← hA, ← hB]
  clear hA hB
  by_cases h1 : x = y
  · rw [if_pos h1]; omega
  · rw [if_neg h1]
    by_cases h2 : A < 0
    · rw [if_pos h2]; omega
    · rw [if_neg h2]
      by_cases h3 : 0 ≤ B ∧ B < A
      · rw [if_pos h3]; omega
      · rw [if_neg h3]
        by_cases h4 : A = B ∧ x < y
        · rw [if_pos h4]; omega
        · rw [if_neg h4]; omega
/-- a comes before b or is b, lists of one length. -/
def leL (a b : List Int) : Prop := cmpL a b ≤ 0
theorem cmpL_cons {x y : Int} {a b : List Int} : cmpL (x :: a) (y :: b) = if ordI x y = 0 then cmpL a b else ordI x y := rfl
theorem cmpL_zero : ∀ {a b : List Int}, InR a → InR b → a.length = b.length → cmpL a b = 0 → a = b := by
  intro a
  induction a with
  | nil => intro b _ _ hl _; exact (List.length_eq_zero_iff.1 (by simpa using hl.symm)).symm
  | cons x a ih =>
    intro b ha hb hl h
    cases b with
    | nil => simp at hl
    | cons y b =>
      rw [cmpL_cons] at h
      by_cases h0 : ordI x y = 0
      · rw [if_pos h0] at h
        have hxy := (ordI_key ha.head hb.head).2.1 h0
        rw [hxy, ih ha.tail hb.tail (by simpa using hl) h]
      · rw [if_neg h0] at h
        exact absurd h h0
theorem cmpL_self : ∀ a : List Int, cmpL a a = 0 := by
  intro a
  induction a with
  | nil => rfl
  | cons x a ih => rw [cmpL_cons, if_pos (show ordI x x = 0 from if_pos rfl)]; exact ih
theorem leL_trans : ∀ {a b c : List Int}, InR a → InR b → InR c → a.length = b.length → b.length = c.length → leL a b → leL b c → leL a c := by
  intro a
  induction a with
  | nil => intro b c _ _ _ hl1 hl2 _ _; show cmpL [] c ≤ 0; cases c <;> simp [cmpL]
  | cons x a ih =>
    intro b c ha hb hc hl1 hl2 h1 h2
    cases b with
    | nil => simp at hl1
    | cons y b =>
      cases c with
      | nil => simp at hl2
      | cons z c =>
        unfold leL at h1 h2 ⊢
        rw [cmpL_cons] at h1 h2 ⊢
        have k1 := ordI_key ha.head hb.head
        have k2 := ordI_key hb.head hc.head
        have k3 := ordI_key ha.head hc.head
        by_cases e1 : ordI x y = 0
        · have exy := k1.2.1 e1
          rw [if_pos e1] at h1
          rw [exy]
          by_cases e2 : ordI y z = 0
          · rw [if_pos e2] at h2 ⊢
            exact ih ha.tail hb.tail hc.tail (by simpa using hl1) (by simpa using hl2) h1 h2
          · rw [if_neg e2] at h2 ⊢
            exact h2
        · rw [if_neg e1] at h1
          have l1 := k1.1.1 (by omega)
          by_cases e2 : ordI y z = 0
          · have eyz := k2.2.1 e2
            rw [← eyz, if_neg e1]
            exact h1
          · rw [if_neg e2] at h2
            have l2 := k2.1.1 (by omega)
            have l3 := k3.1.2 (by omega)
            rw [if_neg (by omega)]
            omega
theorem leL_anti : ∀ {a b : List Int}, InR a → InR b → a.length = b.length → leL a b → leL b a → a = b := by
  intro a
  induction a with
  | nil => intro b _ _ hl _ _; exact (List.length_eq_zero_iff.1 (by simpa using hl.symm)).symm
  | cons x a ih =>
    intro b ha hb hl h1 h2
    cases b with
    | nil => simp at hl
    | cons y b =>
      unfold leL at h1 h2
      rw [cmpL_cons] at h1 h2
      have k1 := ordI_key ha.head hb.head
      have k2 := ordI_key hb.head ha.head
      by_cases e1 : ordI x y = 0
      · have exy := k1.2.1 e1
        have e2 : ordI y x = 0 := k2.2.2 exy.symm
        rw [if_pos e1] at h1
        rw [if_pos e2] at h2
        rw [exy, ih ha.tail hb.tail (by simpa using hl) h1 h2]
      · have e2 : ¬ ordI y x = 0 := fun h => e1 (k1.2.2 (k2.2.1 h).symm)
        rw [if_neg e1] at h1
        rw [if_neg e2] at h2
        have l1 := k1.1.1 (by omega)
        have l2 := k2.1.1 (by omega)
        omega
theorem leL_total : ∀ {a b : List Int}, InR a → InR b → ¬ leL a b → leL b a := by
  intro a
  induction a with
  | nil => intro b _ _ h; exact absurd (show cmpL [] b ≤ 0 by cases b <;> simp [cmpL]) h
  | cons x a ih =>
    intro b ha hb h
    cases b with
    | nil => show cmpL [] (x :: a) ≤ 0; simp [cmpL]
    | cons y b =>
      unfold leL at h ⊢
      rw [cmpL_cons] at h ⊢
      have k1 := ordI_key ha.head hb.head
      have k2 := ordI_key hb.head ha.head
      by_cases e1 : ordI x y = 0
      · have e2 : ordI y x = 0 := k2.2.2 (k1.2.1 e1).symm
        rw [if_pos e1] at h
        rw [if_pos e2]
        exact ih ha.tail hb.tail h
      · have e2 : ¬ ordI y x = 0 := fun h => e1 (k1.2.2 (k2.2.1 h).symm)
        rw [if_neg e1] at h
        rw [if_neg e2]
        have l1 : ¬ key x < key y := fun h' => h (by have := k1.1.2 h'; omega)
        apply Classical.byContradiction
        intro hc
        have l2 : ¬ key y < key x := fun h' => hc (by have := k2.1.2 h'; omega)
        have : key x = key y := by omega
        apply e1
        apply k1.2.2
        unfold key at this
        split at this <;> split at this <;> omega
theorem cmpI_same {a b : List Int} (h : a.length = b.length) : cmpI a b = cmpL a b := by unfold cmpI; rw [if_neg (by omega), if_neg (by omega)]
/-- The least rotation comes before all others. -/
theorem lrG_least {w : List Int} (hw : InR w) (k : Nat) : ∀ j, j ≤ k → leL (lrG w k).1 (rotN w j) := by
  induction k with
  | zero =>
    intro j hj
    have : j = 0 := by omega
    subst this
    rw [rotN_zero]
    show cmpL w w ≤ 0
    rw [cmpL_self]
    exact Int.le_refl _
  | succ k ih =>
    intro j hj
    have hlen : (rotN w (k + 1)).length = (lrG w k).1.length := by rw [rotN_length, lrG_length]
    by_cases h : cmpI (rotN w (k + 1)) (lrG w k).1 < 0
    · rw [lrG_yes h]
      rw [cmpI_same hlen] at h
      by_cases hjk : j = k + 1
      · subst hjk
        show cmpL _ _ ≤ 0
        rw [cmpL_self]
        exact Int.le_refl _
      · exact leL_trans (rotN_in hw _) (lrG_in hw k) (rotN_in hw _) hlen (by rw [lrG_length, rotN_length]) (show cmpL (rotN w (k + 1)) (lrG w k).1 ≤ 0 from Int.le_of_lt h) (ih j (by omega))
    · rw [lrG_no h]
      rw [cmpI_same hlen] at h
      by_cases hjk : j = k + 1
      · subst hjk
        have hne : ¬ cmpL (rotN w (k + 1)) (lrG w k).1 < 0 := h
        by_cases hle : leL (rotN w (k + 1)) (lrG w k).1
        · have h0 : cmpL (rotN w (k + 1)) (lrG w k).1 = 0 := by unfold leL at hle; omega
          rw [cmpL_zero (rotN_in hw _) (lrG_in hw k) hlen h0]
          show cmpL _ _ ≤ 0
          rw [cmpL_self]
          exact Int.le_refl _
        · exact leL_total (rotN_in hw _) (lrG_in hw k) hle
      · exact ih j (by omega)
theorem lrL_least {w : List Int} (hw : InR w) (j : Nat) : leL (lrL w).1 (rotN w j) := by
  rw [← rotN_mod]
  rcases Nat.eq_zero_or_pos w.length with h0 | h0
  · have : w = [] := List.length_eq_zero_iff.1 h0
    subst this
    show cmpL _ _ ≤ 0
    rw [rotN_nil]
    show cmpL [] [] ≤ 0
    simp [cmpL]
  · exact lrG_least hw _ _ (by have := Nat.mod_lt j h0; omega)
theorem lrL_rot (w : List Int) : (lrL w).1 = rotN w (lrL w).2 := (lrG_rot w _).1
theorem lrL_length (w : List Int) : (lrL w).1.length = w.length := lrG_length w _
theorem lrL_in {w : List Int} (h : InR w) : InR (lrL w).1 := lrG_in h _
/-- Two words are rotations of each other exactly if their least rotations agree. -/
theorem lrL_iff {x y : List Int} (hx : InR x) (hy : InR y) (hl : x.length = y.length) (hn : 0 < x.length) : (∃ k, k < x.length ∧ rotN x k = y) ↔ (lrL x).1 = (lrL y).1 := by
  constructor
  · rintro ⟨k, hk, rfl⟩
    refine leL_anti (lrL_in hx) (lrL_in hy) (by rw [lrL_length, lrL_length, rotN_length]) ?_ ?_
    · rw [lrL_rot (rotN x k), rotN_rotN]
      exact lrL_least hx _
    · have e : (lrL x).1 = rotN (rotN x k) ((lrL x).2 + (x.length - k)) := by
        rw [rotN_rotN, lrL_rot x, ← rotN_mod x (lrL x).2, ← rotN_mod x (k + _)]
        congr 1
        have : k + ((lrL x).2 + (x.length - k)) = (lrL x).2 + x.length := by omega
        rw [this, Nat.add_mod_right]
      rw [e]
      exact lrL_least hy _
  · intro h
    rw [lrL_rot, lrL_rot] at h
    refine ⟨((lrL x).2 + (y.length - (lrL y).2 % y.length)) % x.length, Nat.mod_lt _ hn, ?_⟩
    have hm := Nat.mod_lt (lrL y).2 (show 0 < y.length by omega)
    rw [rotN_mod, ← rotN_rotN, h, rotN_rotN, ← rotN_mod]
    have e : ((lrL y).2 + (y.length - (lrL y).2 % y.length)) % y.length = 0 := by
      rw [Nat.add_mod, ← Nat.mod_mod (lrL y).2 y.length, ← Nat.add_mod, Nat.mod_mod]
      have : (lrL y).2 % y.length + (y.length - (lrL y).2 % y.length) = y.length := by omega
      rw [this, Nat.mod_self]
    rw [e, rotN_zero]
theorem conjK_some {x y : List Int} : ∀ {f d k : Nat}, conjK x y f d = some k → rotN x k = y ∧ d ≤ k ∧ k < d + f := by
  intro f
  induction f with
  | zero => intro d k h; cases h
  | succ f ih =>
    intro d k h
    by_cases hy : rotN x d = y
    · rw [conjK_yes hy] at h
      cases h
      exact ⟨hy, Nat.le_refl _, by omega⟩
    · rw [conjK_no hy] at h
      have := ih h
      exact ⟨this.1, by omega, by omega⟩
theorem conjK_none {x y : List Int} : ∀ {f d : Nat}, conjK x y f d = none → ∀ k, d ≤ k → k < d + f → rotN x k ≠ y := by
  intro f
  induction f with
  | zero => intro d _ k h1 h2; omega
  | succ f ih =>
    intro d h k h1 h2
    by_cases hy : rotN x d = y
    · rw [conjK_yes hy] at h; cases h
    · rw [conjK_no hy] at h
      by_cases e : k = d
      · subst e; exact hy
      · exact ih h k (by omega) (by omega)
/-- Letters that are all their own inverses' negatives: none is 0 or the least int. -/
def Good (w : List Int) : Prop := ∀ x ∈ w, x ≠ 0 ∧ -9223372036854775807 ≤ x ∧ x ≤ 9223372036854775807
theorem Good.inR {w : List Int} (h : Good w) : InR w := fun x hx => by have := h x hx; omega
theorem Good.nil : Good [] := by intro x h; cases h
theorem Good.append {a b : List Int} (ha : Good a) (hb : Good b) : Good (a ++ b) := by
  intro x hx
  rcases List.mem_append.1 hx with h | h
  · exact ha x h
  · exact hb x h
theorem Good.left {a b : List Int} (h : Good (a ++ b)) : Good a := fun x hx => h x (List.mem_append_left _ hx)
theorem Good.right {a b : List Int} (h : Good (a ++ b)) : Good b := fun x hx => h x (List.mem_append_right _ hx)
theorem Good.ng {x : Int} (h : x ≠ 0 ∧ -9223372036854775807 ≤ x ∧ x ≤ 9223372036854775807) : Go.Proofs.Ytcjkgknmpgehbaa.ng x = -x := ng_of (by omega) (by omega)
theorem Good.inv {a : List Int} (h : Good a) : Good (invL a) := by
  intro x hx
  obtain ⟨y, hy, rfl⟩ := List.mem_map.1 (List.mem_reverse.1 hx)
  have := h y hy
  rw [Good.ng this]
  omega
theorem Good.take {a : List Int} (h : Good a) (k : Nat) : Good (a.take k) := fun x hx => h x (List.mem_of_mem_take hx)
theorem Good.drop {a : List Int} (h : Good a) (k : Nat) : Good (a.drop k) := fun x hx => h x (List.mem_of_mem_drop hx)
/-- A word behind its inverse changes nothing. -/
theorem stk_cancel {p : List Int} : ∀ {s : List Int}, Red s → Good p → stk s (invL p ++ p) = s := by
  induction p with
  | nil => intro s _ _; rfl
  | cons x t ih =>
    intro s hs hp
    have hx := hp x List.mem_cons_self
    have e : invL (x :: t) ++ (x :: t) = invL t ++ ([ng x] ++ ([x] ++ t)) := by simp [invL]
    have hi : inv (ng x) x = true := by unfold inv; rw [decide_eq_true_eq, Good.ng hx]; omega
    rw [e, stk_append, stk_append, stk_append]
    show stk (push (push (stk s (invL t)) (ng x)) x) t = s
    rw [push_push hs.stk hi, ← stk_append]
    exact ih hs (fun y hy => hp y (List.mem_cons_of_mem _ hy))
theorem redL_cancel {u p v : List Int} (hu : InR u) (hp : Good p) (hv : InR v) : redL (u ++ (invL p ++ (p ++ v))) = redL (u ++ v) := by
  rw [redL_stk (hu.append (InR.invL.append (hp.inR.append hv))), redL_stk (hu.append hv), stk_append, ← List.append_assoc (invL p), stk_append, stk_cancel Red.nil.stk hp, stk_append]
theorem redL_cancel' {u p v : List Int} (hu : InR u) (hp : Good p) (hv : InR v) : redL (u ++ (p ++ (invL p ++ v))) = redL (u ++ v) := by
  have := redL_cancel (p := invL p) hu hp.inv hv
  rw [invL_invL hp.inR] at this
  exact this
theorem Good.red {w : List Int} (h : Good w) : Good (redL w) := by
  rw [redL_stk h.inR]
  have : ∀ (l s : List Int), Good s → Good l → Good (stk s l) := by
    intro l
    induction l with
    | nil => intro s hs _; exact hs
    | cons x l ih =>
      intro s hs hl
      refine ih _ ?_ (fun y hy => hl y (List.mem_cons_of_mem _ hy))
      cases s with
      | nil => intro y hy; rw [List.mem_singleton.1 hy]; exact hl x List.mem_cons_self
      | cons z t =>
        cases hi : Go.Proofs.Ytcjkgknmpgehbaa.inv z x with
        | true => rw [push_yes hi]; exact fun y hy => hs y (List.mem_cons_of_mem _ hy)
        | false =>
          rw [push_no hi]
          intro y hy
          rcases List.mem_cons.1 hy with rfl | h'
          · exact hl y List.mem_cons_self
          · exact hs y h'
  intro x hx
  exact this w [] Good.nil h x (List.mem_reverse.1 hx)
theorem coreL_good {w : List Int} (h : Good w) : Good (coreL w).1 ∧ Good (coreL w).2 := by
  have hg := h.red
  rw [← coreL_prod h.inR] at hg
  exact ⟨hg.right.left, hg.left⟩
/-- A rotation is a conjugate. -/
theorem conj_rot {p c q : List Int} {k : Nat} (hp : Good p) (hc : Good c) (hq : Good q) (hk : k < c.length) :
    conL (redL (p ++ (c ++ invL p))) (mulL (mulL p (c.take k)) (invL q)) = redL (q ++ (rotN c k ++ invL q)) := by
  obtain ⟨ct, hct⟩ : ∃ ct, ct = c.take k := ⟨_, rfl⟩
  obtain ⟨cd, hcd⟩ : ∃ cd, cd = c.drop k := ⟨_, rfl⟩
  have hcc : c = ct ++ cd := by rw [hct, hcd, List.take_append_drop]
  have hr : rotN c k = cd ++ ct := by unfold rotN; rw [Nat.mod_eq_of_lt hk, hct, hcd]
  have gt : Good ct := by rw [hct]; exact hc.take k
  have gd : Good cd := by rw [hcd]; exact hc.drop k
  have hpt : InR (p ++ ct) := hp.inR.append gt.inR
  rw [hr, ← hct]
  have hx : mulL (mulL p ct) (invL q) = redL (p ++ (ct ++ invL q)) := by
    unfold mulL
    rw [redL_left hpt InR.invL, List.append_assoc]
  rw [hx]
  have g1 : InR (p ++ (ct ++ invL q)) := hp.inR.append (gt.inR.append InR.invL)
  have g2 : InR (p ++ (c ++ invL p)) := hp.inR.append (hc.inR.append InR.invL)
  rw [conL_flat (redL_in g2) (redL_in g1), invL_redL g1]
  have e1 : invL (p ++ (ct ++ invL q)) = q ++ (invL ct ++ invL p) := by rw [invL_append, invL_append, invL_invL hq.inR, List.append_assoc]
  rw [e1]
  have g3 : InR (q ++ (invL ct ++ invL p)) := hq.inR.append (InR.invL.append InR.invL)
  rw [redL_right ((redL_in g3).append (redL_in g2)) g1]
  rw [← redL_left ((redL_in g3).append (redL_in g2)) g1, redL_append_red g3 g2, redL_left (g3.append g2) g1]
  have e2 : q ++ (invL ct ++ invL p) ++ (p ++ (c ++ invL p)) ++ (p ++ (ct ++ invL q)) = (q ++ invL ct) ++ (invL p ++ (p ++ (c ++ (invL p ++ (p ++ (ct ++ invL q)))))) := by simp only [List.append_assoc]
  rw [e2, redL_cancel (hq.inR.append InR.invL) hp (hc.inR.append (InR.invL.append (hp.inR.append (gt.inR.append InR.invL))))]
  have e3 : (q ++ invL ct) ++ (c ++ (invL p ++ (p ++ (ct ++ invL q)))) = (q ++ (invL ct ++ c)) ++ (invL p ++ (p ++ (ct ++ invL q))) := by simp only [List.append_assoc]
  rw [e3, redL_cancel (hq.inR.append (InR.invL.append hc.inR)) hp (gt.inR.append InR.invL), hcc]
  have e4 : (q ++ (invL ct ++ (ct ++ cd))) ++ (ct ++ invL q) = q ++ (invL ct ++ (ct ++ (cd ++ (ct ++ invL q)))) := by simp only [List.append_assoc]
  rw [e4, redL_cancel hq.inR gt (gd.inR.append (gt.inR.append InR.invL))]
  simp only [List.append_assoc]
/-- What AreConjugate tells. -/
theorem conjW_iff {a b : List Int} (ha : Good a) (hb : Good b) : (conjW a b).2 = decide ((lrL (coreL a).1).1 = (lrL (coreL b).1).1) ∧ ((conjW a b).2 = true → conL (redL a) (conjW a b).1 = redL b) := by
  obtain ⟨gx, gp⟩ := coreL_good ha
  obtain ⟨gy, gq⟩ := coreL_good hb
  have pa := coreL_prod ha.inR
  have pb := coreL_prod hb.inR
  unfold conjW
  obtain ⟨x, hx⟩ : ∃ x, x = (coreL a).1 := ⟨_, rfl⟩
  obtain ⟨p, hp⟩ : ∃ p, p = (coreL a).2 := ⟨_, rfl⟩
  obtain ⟨y, hy⟩ : ∃ y, y = (coreL b).1 := ⟨_, rfl⟩
  obtain ⟨q, hq⟩ : ∃ q, q = (coreL b).2 := ⟨_, rfl⟩
  rw [← hx, ← hp] at pa
  rw [← hy, ← hq] at pb
  rw [← hx] at gx ⊢
  rw [← hp] at gp ⊢
  rw [← hy] at gy ⊢
  rw [← hq] at gq ⊢
  by_cases hl : x.length = y.length
  · rw [if_neg (by omega)]
    by_cases h0 : x.length = 0
    · rw [if_pos h0]
      have ex : x = [] := List.length_eq_zero_iff.1 h0
      have ey : y = [] := List.length_eq_zero_iff.1 (by omega)
      rw [ex] at pa
      rw [ey] at pb
      rw [ex, ey]
      refine ⟨by simp, fun _ => ?_⟩
      have ra : redL a = [] := by
        have := redL_cancel' (u := []) (p := p) (v := []) InR.nil gp InR.nil
        simp only [List.nil_append, List.append_nil] at this pa
        have h2 := redL_redL ha.inR
        rw [← h2, ← pa, this]
        rfl
      have rb : redL b = [] := by
        have := redL_cancel' (u := []) (p := q) (v := []) InR.nil gq InR.nil
        simp only [List.nil_append, List.append_nil] at this pb
        have h2 := redL_redL hb.inR
        rw [← h2, ← pb, this]
        rfl
      rw [ra, rb]
      rfl
    · rw [if_neg h0]
      have hiff := lrL_iff gx.inR gy.inR hl (by omega)
      cases hk : conjK x y x.length 0 with
      | some k =>
        obtain ⟨h1, _, h3⟩ := conjK_some hk
        have hkl : k < x.length := by omega
        have he := hiff.1 ⟨k, hkl, h1⟩
        show true = decide _ ∧ (_ → conL (redL a) (mulL (mulL p (x.take k)) (invL q)) = redL b)
        refine ⟨by rw [eq_comm, decide_eq_true_eq]; exact he, fun _ => ?_⟩
        have hc := conj_rot gp gx gq hkl
        rw [h1, pa, pb, redL_redL ha.inR, redL_redL hb.inR] at hc
        exact hc
      | none =>
        have hno := conjK_none hk
        show false = decide _ ∧ (false = true → _)
        refine ⟨?_, fun h => by cases h⟩
        rw [eq_comm, decide_eq_false_iff_not]
        intro he
        obtain ⟨k, hkl, h1⟩ := hiff.2 he
        exact hno k (Nat.zero_le _) (by omega) h1
  · rw [if_pos (by omega)]
    refine ⟨?_, fun h => by cases h⟩
    show false = decide _
    rw [eq_comm, decide_eq_false_iff_not]
    intro he
    apply hl
    rw [← lrL_length x, ← lrL_length y, he]
end Go.Proofs.Ytcjkgknmpgehbaa
