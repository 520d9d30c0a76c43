/- Plain mathematics of cyclic words: periods and roots. -/
import Derived.Test.YtcjkgknmpgehbaaMZ1
namespace Go.Proofs.Ytcjkgknmpgehbaa
open Go.RowKit
set_option linter.unusedVariables false

theorem red_iff {l : List Int} : Red l ↔ ∀ i, i + 1 < l.length → inv (l.getD i 0) (l.getD (i + 1) 0) = false := by
  constructor
  · intro h i hi
    have e : l = l.take i ++ l.getD i 0 :: l.getD (i + 1) 0 :: l.drop (i + 2) := by
      have h1 : l.drop i = l[i] :: l.drop (i + 1) := List.drop_eq_getElem_cons (by omega)
      have h2 : l.drop (i + 1) = l[i + 1] :: l.drop (i + 2) := List.drop_eq_getElem_cons hi
      have g1 : l.getD i 0 = l[i] := by simp [List.getD_eq_getElem?_getD, show i < l.length by omega]
      have g2 : l.getD (i + 1) 0 = l[i + 1] := by simp [List.getD_eq_getElem?_getD, hi]
      rw [g1, g2, ← h2, ← h1, List.take_append_drop]
    exact h _ _ _ _ e
  · intro h p a b q e
    have h1 := h p.length (by rw [e]; simp)
    rw [e, getD_append_right (Nat.le_refl _), getD_append_right (by omega)] at h1
    have e1 : p.length - p.length = 0 := by omega
    have e2 : p.length + 1 - p.length = 1 := by omega
    rw [e1, e2] at h1
    exact h1
theorem Red.left {a b : List Int} (h : Red (a ++ b)) : Red a := by
  intro p x y q e
  exact h p x y (q ++ b) (by rw [e]; simp)
theorem Red.right {a b : List Int} (h : Red (a ++ b)) : Red b := by
  intro p x y q e
  exact h (a ++ p) x y q (by rw [e]; simp)
theorem Red.join {a b c : List Int} (h1 : Red (a ++ b)) (h2 : Red (b ++ c)) (hb : b ≠ []) : Red (a ++ (b ++ c)) := by
  rw [red_iff] at h1 h2 ⊢
  intro i hi
  have hbl : 0 < b.length := by
    rcases Nat.eq_zero_or_pos b.length with h | h
    · exact absurd (List.length_eq_zero_iff.1 h) hb
    · exact h
  by_cases h3 : i + 1 < (a ++ b).length
  · have := h1 i h3
    rw [← List.append_assoc, getD_append_left (by omega), getD_append_left h3]
    exact this
  · rw [List.length_append] at h3
    have e1 : (a ++ (b ++ c)).getD i 0 = (b ++ c).getD (i - a.length) 0 := getD_append_right (by omega)
    have e2 : (a ++ (b ++ c)).getD (i + 1) 0 = (b ++ c).getD (i + 1 - a.length) 0 := getD_append_right (by omega)
    have := h2 (i - a.length) (by simp only [List.length_append] at hi ⊢; omega)
    rw [e1, e2, show i + 1 - a.length = i - a.length + 1 by omega]
    exact this
theorem Red.redL {z : List Int} (h : Red z) (hi : InR z) : redL z = z := by
  have h2 : Red (z.reverse ++ []) := by rw [List.append_nil]; exact h.reverse
  rw [redL_stk hi, stk_of_red h2, List.append_nil, List.reverse_reverse]
theorem red_of_redL {z : List Int} (hi : InR z) (h : redL z = z) : Red z := by
  rw [← h, redL_stk hi]
  exact (Red.nil.stk).reverse
theorem stk_len_red : ∀ {z s : List Int}, (stk s z).length = s.length + z.length → stk s z = z.reverse ++ s := by
  intro z
  induction z with
  | nil => intro s _; rfl
  | cons x z ih =>
    intro s h
    rw [stk_cons] at h ⊢
    have h1 := stk_length z (push s x)
    have h2 := push_length s x
    rw [List.length_cons] at h
    have h3 : (push s x).length = s.length + 1 := by omega
    have h4 : push s x = x :: s := by
      cases s with
      | nil => rfl
      | cons y t =>
        cases hi : inv y x with
        | true => rw [push_yes hi, List.length_cons] at h3; omega
        | false => exact push_no hi
    rw [ih (by omega), h4, List.reverse_cons, List.append_assoc]
    rfl
theorem redL_len {z : List Int} (hi : InR z) (h : (redL z).length = z.length) : redL z = z := by
  rw [redL_stk hi, List.length_reverse] at h
  rw [redL_stk hi, stk_len_red (by simpa using h)]
  simp
/-- The least place, a divisor of the length, by which a word can be rotated. -/
def rd (c : List Int) : Nat := rootD c (c.length - 1) 1
theorem rootD_spec {c : List Int} : ∀ (f d : Nat), d + f = c.length → 1 ≤ d → d ≤ rootD c f d ∧ rootD c f d ≤ c.length ∧ (c.length % rootD c f d = 0 ∧ rotN c (rootD c f d) = c) ∧ ∀ e, d ≤ e → e < rootD c f d → ¬ (c.length % e = 0 ∧ rotN c e = c) := by
  intro f
  induction f with
  | zero =>
    intro d hd h1
    have : rootD c 0 d = d := rfl
    rw [this]
    have hn : d = c.length := by omega
    exact ⟨Nat.le_refl _, by omega, by rw [hn]; exact ⟨Nat.mod_self _, rotN_len c⟩, fun e h2 h3 => by omega⟩
  | succ f ih =>
    intro d hd h1
    by_cases h : c.length % d = 0 ∧ rotN c d = c
    · rw [rootD_yes h]
      exact ⟨Nat.le_refl _, by omega, h, fun e h2 h3 => by omega⟩
    · rw [rootD_no h]
      obtain ⟨i1, i2, i3, i4⟩ := ih (d + 1) (by omega) (by omega)
      refine ⟨by omega, i2, i3, fun e h2 h3 => ?_⟩
      by_cases he : e = d
      · subst he; exact h
      · exact i4 e (by omega) h3
theorem rd_spec {c : List Int} (hc : c ≠ []) : 1 ≤ rd c ∧ rd c ≤ c.length ∧ c.length % rd c = 0 ∧ rotN c (rd c) = c ∧ ∀ e, 1 ≤ e → e < rd c → ¬ (c.length % e = 0 ∧ rotN c e = c) := by
  have hl : 0 < c.length := by
    rcases Nat.eq_zero_or_pos c.length with h | h
    · exact absurd (List.length_eq_zero_iff.1 h) hc
    · exact h
  obtain ⟨h1, h2, h3, h4⟩ := rootD_spec (c := c) (c.length - 1) 1 (by omega) (Nat.le_refl _)
  exact ⟨h1, h2, h3.1, h3.2, h4⟩
theorem rotN_mul {c : List Int} {d : Nat} (h : rotN c d = c) (k : Nat) : rotN c (d * k) = c := by
  induction k with
  | zero => rw [Nat.mul_zero, rotN_zero]
  | succ k ih => rw [Nat.mul_succ, ← rotN_rotN, ih, h]
theorem least_period (c : List Int) : ∀ n : Nat, 0 < n → rotN c n = c → ∃ d, 0 < d ∧ d ≤ n ∧ rotN c d = c ∧ ∀ e, 0 < e → e < d → rotN c e ≠ c := by
  intro n
  induction n using Nat.strongRecOn with
  | _ n ih =>
    intro h0 hn
    by_cases h : ∃ e, 0 < e ∧ e < n ∧ rotN c e = c
    · obtain ⟨e, h1, h2, h3⟩ := h
      obtain ⟨d, d1, d2, d3, d4⟩ := ih e h2 h1 h3
      exact ⟨d, d1, by omega, d3, d4⟩
    · exact ⟨n, h0, Nat.le_refl _, hn, fun e h1 h2 h3 => h ⟨e, h1, h2, h3⟩⟩
theorem period_dvd {c : List Int} {d : Nat} (h0 : 0 < d) (hd : rotN c d = c) (hm : ∀ e, 0 < e → e < d → rotN c e ≠ c) {e : Nat} (he : rotN c e = c) : e % d = 0 := by
  apply Classical.byContradiction
  intro hne
  have h1 : 0 < e % d := Nat.pos_of_ne_zero hne
  have h2 : e % d < d := Nat.mod_lt _ h0
  apply hm _ h1 h2
  have h3 : rotN c (d * (e / d) + e % d) = c := by rw [Nat.div_add_mod]; exact he
  rw [← rotN_rotN, rotN_mul hd] at h3
  exact h3
/-- Every place by which the word can be rotated is a multiple of the least. -/
theorem rd_dvd {c : List Int} (hc : c ≠ []) {e : Nat} (he : rotN c e = c) : e % rd c = 0 := by
  obtain ⟨r1, r2, r3, r4, r5⟩ := rd_spec hc
  obtain ⟨d, d1, d2, d3, d4⟩ := least_period c c.length (by omega) (rotN_len c)
  have hdn := period_dvd d1 d3 d4 (rotN_len c)
  have hle : rd c ≤ d := by
    apply Classical.byContradiction
    intro h
    exact r5 d d1 (by omega) ⟨hdn, d3⟩
  have hge : d ≤ rd c := by
    apply Classical.byContradiction
    intro h
    exact d4 (rd c) (by omega) (by omega) r4
  have heq : rd c = d := by omega
  rw [heq]
  exact period_dvd d1 d3 d4 he
theorem rep_getD {t : List Int} : ∀ {j i : Nat}, i < j * t.length → (rep t j).getD i 0 = t.getD (i % t.length) 0 := by
  intro j
  induction j with
  | zero => intro i h; simp at h
  | succ j ih =>
    intro i h
    rw [Nat.succ_mul] at h
    by_cases h1 : i < j * t.length
    · rw [rep, getD_append_left (by rw [rep_length]; exact h1)]
      exact ih h1
    · rw [rep, getD_append_right (by rw [rep_length]; omega), rep_length]
      have e : i = t.length * j + (i - j * t.length) := by rw [Nat.mul_comm]; omega
      have hm : (t.length * j + (i - j * t.length)) % t.length = i - j * t.length := by rw [Nat.mul_add_mod, Nat.mod_eq_of_lt (by omega)]
      rw [← e] at hm
      rw [hm]
theorem rep_succ' (t : List Int) (j : Nat) : rep t (j + 1) = t ++ rep t j := by
  induction j with
  | zero => simp [rep]
  | succ j ih =>
    show rep t (j + 1) ++ t = t ++ (rep t j ++ t)
    rw [ih, List.append_assoc]
theorem rep_add (t : List Int) (j k : Nat) : rep t (j + k) = rep t j ++ rep t k := by
  induction k with
  | zero => simp [rep]
  | succ k ih => rw [Nat.add_succ, rep, ih, List.append_assoc]; rfl
theorem period_getD {c : List Int} {d : Nat} (h0 : 0 < d) (hd : rotN c d = c) : ∀ i, i < c.length → c.getD i 0 = c.getD (i % d) 0 := by
  intro i
  induction i using Nat.strongRecOn with
  | _ i ih =>
    intro hi
    by_cases h : i < d
    · rw [Nat.mod_eq_of_lt h]
    · have h1 := rotN_getD c d (i - d) (by omega)
      rw [hd, show i - d + d = i by omega, Nat.mod_eq_of_lt hi] at h1
      rw [← h1, ih (i - d) (by omega) (by omega)]
      congr 1
      rw [Nat.mod_eq_sub_mod (show d ≤ i by omega)]
/-- A word with a period is a power. -/
theorem rep_of_period {c : List Int} {d : Nat} (h0 : 0 < d) (hdn : d ≤ c.length) (hd : rotN c d = c) (hm : c.length % d = 0) : c = rep (c.take d) (c.length / d) := by
  have hl : (c.take d).length = d := by rw [List.length_take]; omega
  have hmul : c.length / d * d = c.length := Nat.div_mul_cancel (Nat.dvd_of_mod_eq_zero hm)
  refine ext_getD (by rw [rep_length, hl, hmul]) (fun i hi => ?_)
  rw [rep_getD (by rw [hl, hmul]; exact hi), hl, period_getD h0 hd i hi]
  have hid := Nat.mod_lt i h0
  rw [List.getD_eq_getElem?_getD, List.getD_eq_getElem?_getD, List.getElem?_take, if_pos hid]
/-- A rotation of a power. -/
theorem rot_rep {t : List Int} {j e : Nat} (ht : 0 < t.length) (hj : 0 < j) : rotN (rep t j) e = rep t j ↔ rotN t e = t := by
  have hd : t.length ∣ j * t.length := Nat.dvd_mul_left _ _
  have key : ∀ i, i < j * t.length → (rotN (rep t j) e).getD i 0 = (rotN t e).getD (i % t.length) 0 := by
    intro i hi
    have hil := Nat.mod_lt i ht
    rw [rotN_getD _ _ _ (by rw [rep_length]; exact hi), rep_length, rep_getD (Nat.mod_lt _ (by omega)), rotN_getD _ _ _ hil, Nat.mod_mod_of_dvd _ hd]
    congr 1
    rw [Nat.mod_add_mod]
  have hjt : t.length ≤ j * t.length := Nat.le_mul_of_pos_left _ hj
  constructor
  · intro h
    refine ext_getD (rotN_length _ _) (fun i hi => ?_)
    rw [rotN_length] at hi
    have h1 := key i (by omega)
    rw [h, rep_getD (by omega), Nat.mod_eq_of_lt hi] at h1
    exact h1.symm
  · intro h
    refine ext_getD (rotN_length _ _) (fun i hi => ?_)
    rw [rotN_length, rep_length] at hi
    rw [key i hi, h, rep_getD hi]
/-- No place below the length by which t can be rotated. -/
def Prim (t : List Int) : Prop := ∀ e, 0 < e → rotN t e = t → t.length ≤ e
theorem Good.rep {t : List Int} (h : Good t) (j : Nat) : Good (rep t j) := by
  induction j with
  | zero => exact Good.nil
  | succ j ih => exact ih.append h
theorem good_inv_ne {x : Int} (h : x ≠ 0 ∧ -9223372036854775807 ≤ x ∧ x ≤ 9223372036854775807) : x ≠ ng x := by rw [Good.ng h]; omega
theorem Good.at {a : List Int} (h : Good a) {i : Nat} (hi : i < a.length) : a.getD i 0 ≠ 0 ∧ -9223372036854775807 ≤ a.getD i 0 ∧ a.getD i 0 ≤ 9223372036854775807 := by
  apply h
  rw [List.getD_eq_getElem?_getD, List.getElem?_eq_getElem hi]
  exact List.getElem_mem hi
/-- Stripping what conjugates. -/
theorem coreF_strip {x : List Int} : ∀ {p q : List Int} {f : Nat}, Good p → coreF (f + p.length) (p ++ (x ++ invL p)) q = coreF f x (q ++ p) := by
  intro p
  induction p with
  | nil => intro q f _; simp [invL]
  | cons h p ih =>
    intro q f hp
    have hh := hp h List.mem_cons_self
    obtain ⟨z, hz⟩ : ∃ z, z = p ++ (x ++ invL p) := ⟨_, rfl⟩
    have e : (h :: p) ++ (x ++ invL (h :: p)) = [h] ++ (z ++ [ng h]) := by
      rw [hz]
      simp [invL]
    obtain ⟨y, hy⟩ : ∃ y, y = [h] ++ (z ++ [ng h]) := ⟨_, rfl⟩
    have hyl : y.length = z.length + 2 := by rw [hy]; simp
    have y0 : y.getD 0 0 = h := by rw [hy]; rfl
    have yl : y.getD (y.length - 1) 0 = ng h := by
      rw [hyl, hy, getD_append_right (by simp), getD_append_right (by simp)]
      have : z.length + 2 - 1 - [h].length - z.length = 0 := by simp
      rw [this]; rfl
    have hsc : sc y = true := by
      rw [sc_iff, y0, yl]
      refine ⟨by omega, ?_, good_inv_ne hh⟩
      rw [ng_ng (by omega)]
    have hmid : mid y = z := by
      refine ext_getD (by rw [mid_length]; omega) (fun i hi => ?_)
      rw [mid_length] at hi
      rw [mid_getD hi, hy, getD_append_right (by simp), getD_append_left (by simp; omega)]
      congr 1
    rw [e, ← hy, List.length_cons, ← Nat.add_assoc, coreF_yes hsc, hmid, y0, hz, ih (fun a ha => hp a (List.mem_cons_of_mem _ ha)), List.append_assoc]
    rfl
theorem rep_ends {t : List Int} {j : Nat} (ht : 0 < t.length) (hj : 0 < j) : (rep t j).getD 0 0 = t.getD 0 0 ∧ (rep t j).getD ((rep t j).length - 1) 0 = t.getD (t.length - 1) 0 := by
  have hjt : t.length ≤ j * t.length := Nat.le_mul_of_pos_left _ hj
  refine ⟨?_, ?_⟩
  · rw [rep_getD (by omega), Nat.zero_mod]
  · rw [rep_length, rep_getD (by omega)]
    congr 1
    obtain ⟨i, hi⟩ : ∃ i, j = i + 1 := ⟨j - 1, by omega⟩
    rw [hi, Nat.succ_mul]
    have e : i * t.length + t.length - 1 = t.length * i + (t.length - 1) := by rw [Nat.mul_comm]; omega
    rw [e, Nat.mul_add_mod, Nat.mod_eq_of_lt (by omega)]
theorem sc_rep {t : List Int} {j : Nat} (hg : Good t) (ht : 0 < t.length) (hj : 0 < j) (h : sc t = false) : sc (rep t j) = false := by
  obtain ⟨e1, e2⟩ := rep_ends ht hj
  cases hs : sc (rep t j) with
  | false => rfl
  | true =>
    obtain ⟨h1, h2, h3⟩ := sc_iff.1 hs
    rw [e1, e2] at h2
    by_cases h4 : 1 < t.length
    · have : sc t = true := sc_iff.2 ⟨h4, h2, good_inv_ne (hg.at ht)⟩
      rw [h] at this
      cases this
    · have e3 : t.length - 1 = 0 := by omega
      rw [e3] at h2
      exact absurd h2 (good_inv_ne (hg.at ht))
theorem red_tt {t : List Int} (hg : Good t) (ht : 0 < t.length) (h : sc t = false) (hr : Red t) : Red (t ++ t) := by
  rw [red_iff] at hr ⊢
  intro i hi
  rw [List.length_append] at hi
  by_cases h1 : i + 1 < t.length
  · rw [getD_append_left (by omega), getD_append_left h1]
    exact hr i h1
  · by_cases h2 : i < t.length
    · have e : i = t.length - 1 := by omega
      rw [getD_append_left h2, getD_append_right (by omega), e, show t.length - 1 + 1 - t.length = 0 by omega]
      unfold inv
      rw [decide_eq_false_iff_not]
      intro hc
      have g0 := hg.at ht
      have gl := hg.at (show t.length - 1 < t.length by omega)
      by_cases h4 : 1 < t.length
      · have : sc t = true := sc_iff.2 ⟨h4, by rw [Good.ng gl]; omega, good_inv_ne g0⟩
        rw [h] at this
        cases this
      · have e3 : t.length - 1 = 0 := by omega
        rw [e3] at hc
        omega
    · rw [getD_append_right (by omega), getD_append_right (by omega)]
      have := hr (i - t.length) (by omega)
      rw [show i + 1 - t.length = i - t.length + 1 by omega]
      exact this
theorem red_rep {t : List Int} (hg : Good t) (ht : 0 < t.length) (h : sc t = false) (hr : Red t) : ∀ j, Red (rep t j) := by
  intro j
  have htn : t ≠ [] := by intro e; rw [e] at ht; simp at ht
  induction j with
  | zero => exact Red.nil
  | succ j ih =>
    cases j with
    | zero => simpa [rep] using hr
    | succ j =>
      rw [rep] at ih
      rw [rep, rep, List.append_assoc]
      exact ih.join (red_tt hg ht h hr) htn
/-- The parts of a power of a conjugated primitive word. -/
structure Parts (p t : List Int) : Prop where
  gp : Good p
  gt : Good t
  pos : 0 < t.length
  cyc : sc t = false
  red : Red (p ++ (t ++ invL p))
  prim : Prim t
theorem Parts.redW {p t : List Int} (h : Parts p t) {j : Nat} (hj : 0 < j) : Red (p ++ (rep t j ++ invL p)) := by
  have htn : t ≠ [] := by intro e; have := h.pos; rw [e] at this; simp at this
  have r1 : Red (p ++ t) := by have := h.red; rw [← List.append_assoc] at this; exact this.left
  have r2 : Red (t ++ invL p) := h.red.right
  have rt : Red t := r2.left
  obtain ⟨i, rfl⟩ : ∃ i, j = i + 1 := ⟨j - 1, by omega⟩
  have rr := red_rep h.gt h.pos h.cyc rt (i + 1)
  have a1 : Red (p ++ rep t (i + 1)) := by
    rw [rep_succ'] at rr ⊢
    exact r1.join rr htn
  rw [rep] at a1 ⊢
  rw [← List.append_assoc] at a1
  have := a1.join r2 htn
  simpa [List.append_assoc] using this
theorem Parts.goodW {p t : List Int} (h : Parts p t) (j : Nat) : Good (p ++ (rep t j ++ invL p)) := h.gp.append ((h.gt.rep j).append h.gp.inv)
theorem Parts.core {p t : List Int} (h : Parts p t) {j : Nat} (hj : 0 < j) : coreL (p ++ (rep t j ++ invL p)) = (rep t j, p) := by
  have hr := (h.redW hj).redL (h.goodW j).inR
  unfold coreL
  rw [hr]
  obtain ⟨f, hf⟩ : ∃ f, (p ++ (rep t j ++ invL p)).length = f + p.length := ⟨(p ++ (rep t j ++ invL p)).length - p.length, by simp; omega⟩
  rw [hf, coreF_strip h.gp, coreF_no (sc_rep h.gt h.pos hj h.cyc)]
  rfl
theorem Parts.rd {p t : List Int} (h : Parts p t) {j : Nat} (hj : 0 < j) : Go.Proofs.Ytcjkgknmpgehbaa.rd (rep t j) = t.length := by
  have hne : rep t j ≠ [] := by
    intro e
    have := rep_length t j
    rw [e] at this
    have h1 := h.pos
    have h2 := Nat.le_mul_of_pos_left t.length hj
    simp at this
    omega
  obtain ⟨r1, r2, r3, r4, r5⟩ := rd_spec hne
  have h1 : t.length ≤ Go.Proofs.Ytcjkgknmpgehbaa.rd (rep t j) := h.prim _ (by omega) ((rot_rep h.pos hj).1 r4)
  apply Classical.byContradiction
  intro hc
  refine r5 t.length h.pos (by omega) ⟨by rw [rep_length, Nat.mul_mod_left], (rot_rep h.pos hj).2 (rotN_len t)⟩
theorem Parts.root {p t : List Int} (h : Parts p t) {j : Nat} (hj : 0 < j) : rootL (p ++ (rep t j ++ invL p)) = (p ++ (t ++ invL p), (j : Int)) := by
  have hc := h.core hj
  have hd : rootOf (p ++ (rep t j ++ invL p)) = t.length := by
    unfold rootOf
    rw [hc]
    exact h.rd hj
  have hne : rep t j ≠ [] := by
    intro e
    have := rep_length t j
    rw [e] at this
    have h1 := h.pos
    have h2 := Nat.le_mul_of_pos_left t.length hj
    simp at this
    omega
  unfold rootL
  rw [hd, hc, if_neg hne]
  obtain ⟨i, hi⟩ : ∃ i, j = i + 1 := ⟨j - 1, by omega⟩
  have htk : (rep t j).take t.length = t := by rw [hi, rep_succ', List.take_left']; rfl
  show (mulL (mulL p ((rep t j).take t.length)) (invL p), (((rep t j).length / t.length : Nat) : Int)) = _
  rw [htk, rep_length, Nat.mul_div_cancel _ h.pos]
  congr 1
  unfold mulL
  rw [redL_left (h.gp.inR.append h.gt.inR) InR.invL, List.append_assoc]
  exact h.red.redL ((h.gp.append (h.gt.append h.gp.inv)).inR)
/-- The parts of a reduced word. -/
theorem parts_of {w : List Int} (hg : Good w) (hr : redL w = w) (hw : w ≠ []) : ∃ p t m, Parts p t ∧ 0 < m ∧ w = p ++ (rep t m ++ invL p) := by
  obtain ⟨gc, gp⟩ := coreL_good hg
  have hp := coreL_prod hg.inR
  have he := coreL_end w
  obtain ⟨c, hc⟩ : ∃ c, c = (coreL w).1 := ⟨_, rfl⟩
  obtain ⟨p, hpp⟩ : ∃ p, p = (coreL w).2 := ⟨_, rfl⟩
  rw [← hc, ← hpp] at hp
  rw [← hc] at gc he
  rw [← hpp] at gp
  rw [hr] at hp
  have hcn : c ≠ [] := by
    intro e
    rw [e, List.nil_append] at hp
    have := redL_cancel' (u := []) (p := p) (v := []) InR.nil gp InR.nil
    simp only [List.nil_append, List.append_nil] at this
    rw [hp, hr] at this
    exact hw this
  obtain ⟨r1, r2, r3, r4, r5⟩ := rd_spec hcn
  obtain ⟨d, hd⟩ : ∃ d, d = rd c := ⟨_, rfl⟩
  have hmin : ∀ e, rotN c e = c → e % rd c = 0 := fun e h => rd_dvd hcn h
  rw [← hd] at r1 r2 r3 r4 hmin
  have hrep := rep_of_period (by omega) r2 r4 r3
  obtain ⟨t, ht⟩ : ∃ t, t = c.take d := ⟨_, rfl⟩
  obtain ⟨m, hm⟩ : ∃ m, m = c.length / d := ⟨_, rfl⟩
  have htl : t.length = d := by rw [ht, List.length_take]; omega
  rw [← ht, ← hm] at hrep
  have hm0 : 0 < m := by rw [hm]; exact Nat.div_pos r2 (by omega)
  have htp : 0 < t.length := by omega
  have hred : Red (p ++ (rep t m ++ invL p)) := by
    rw [← hrep, hp]
    exact red_of_redL hg.inR hr
  have htn : t ≠ [] := by intro e; rw [e] at htp; simp at htp
  obtain ⟨i, hi⟩ : ∃ i, m = i + 1 := ⟨m - 1, by omega⟩
  have q1 : Red (p ++ t) := by
    rw [hi, rep_succ'] at hred
    have : p ++ (t ++ rep t i ++ invL p) = (p ++ t) ++ (rep t i ++ invL p) := by simp only [List.append_assoc]
    rw [this] at hred
    exact hred.left
  have q2 : Red (t ++ invL p) := by
    rw [hi, rep] at hred
    have : p ++ (rep t i ++ t ++ invL p) = (p ++ rep t i) ++ (t ++ invL p) := by simp only [List.append_assoc]
    rw [this] at hred
    exact hred.right
  have gt : Good t := by rw [ht]; exact gc.take d
  have hsc : sc t = false := by
    cases hs : sc t with
    | false => rfl
    | true =>
      obtain ⟨h1, h2, h3⟩ := sc_iff.1 hs
      obtain ⟨e1, e2⟩ := rep_ends htp hm0
      have : sc c = true := by
        rw [hrep, sc_iff, e1, e2]
        refine ⟨?_, h2, h3⟩
        rw [rep_length]
        have := Nat.le_mul_of_pos_left t.length hm0
        omega
      rw [he] at this
      cases this
  refine ⟨p, t, m, ⟨gp, gt, htp, hsc, q1.join q2 htn, ?_⟩, hm0, by rw [← hrep, hp]⟩
  intro e h0 hte
  have h1 := hmin e (by rw [hrep]; exact (rot_rep htp hm0).2 hte)
  rw [htl]
  exact Nat.le_of_dvd h0 (Nat.dvd_of_mod_eq_zero h1)
end Go.Proofs.Ytcjkgknmpgehbaa
