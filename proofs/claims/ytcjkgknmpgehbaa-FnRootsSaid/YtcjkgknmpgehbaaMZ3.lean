/- Plain mathematics of cyclic words: powers of roots, commuting words. -/
import Derived.Test.YtcjkgknmpgehbaaMZ2
namespace Go.Proofs.Ytcjkgknmpgehbaa
open Go.RowKit
set_option linter.unusedVariables false

theorem redL_congr {u A B v : List Int} (hu : InR u) (hA : InR A) (hB : InR B) (hv : InR v) (h : redL A = redL B) : redL (u ++ (A ++ v)) = redL (u ++ (B ++ v)) := by
  rw [← redL_right hu (hA.append hv), ← redL_left hA hv, h, redL_left hB hv, redL_right hu (hB.append hv)]
theorem rep_conj {p t : List Int} (hp : Good p) (ht : Good t) (j : Nat) : redL (rep (p ++ (t ++ invL p)) j) = redL (p ++ (rep t j ++ invL p)) := by
  induction j with
  | zero =>
    have := redL_cancel' (u := []) (p := p) (v := []) InR.nil hp InR.nil
    simp only [List.nil_append, List.append_nil] at this
    show redL [] = redL (p ++ ([] ++ invL p))
    rw [List.nil_append, this]
  | succ j ih =>
    have gr : Good (p ++ (t ++ invL p)) := hp.append (ht.append hp.inv)
    have g1 : InR (p ++ (rep t j ++ invL p)) := (hp.append ((ht.rep j).append hp.inv)).inR
    rw [rep, ← redL_left (gr.rep j).inR gr.inR, ih, redL_left g1 gr.inR]
    have e : p ++ (rep t j ++ invL p) ++ (p ++ (t ++ invL p)) = (p ++ rep t j) ++ (invL p ++ (p ++ (t ++ invL p))) := by simp only [List.append_assoc]
    rw [e, redL_cancel (hp.append (ht.rep j)).inR hp (ht.append hp.inv).inR]
    simp only [rep, List.append_assoc]
/-- A word is a power of its root, and its root is no proper power. -/
theorem root_pow {w : List Int} (hg : Good w) (hr : redL w = w) (hw : w ≠ []) : 0 < (rootL w).2 ∧ ((rootL w).2 ≤ 24 → powL (rootL w).1 (rootL w).2 = w) ∧ (rootL (rootL w).1).2 = 1 := by
  obtain ⟨p, t, m, hP, hm, rfl⟩ := parts_of hg hr hw
  rw [hP.root hm]
  refine ⟨by show (0 : Int) < (m : Int); omega, fun h => ?_, ?_⟩
  · show powL (p ++ (t ++ invL p)) (m : Int) = _
    have h' : (m : Int) ≤ 24 := h
    rw [powL_pos (by omega) (by omega)]
    have : (m : Int).natAbs = m := by omega
    rw [this, rep_conj hP.gp hP.gt, hr]
  · have h1 := hP.root (j := 1) (by omega)
    have e : rep t 1 = t := by simp [rep]
    rw [e] at h1
    show (rootL (p ++ (t ++ invL p))).2 = 1
    rw [h1]
    rfl
def Com (s t : List Int) : Prop := redL (s ++ t) = redL (t ++ s)
theorem Com.symm {s t : List Int} (h : Com s t) : Com t s := Eq.symm h
theorem Com.append {s t u : List Int} (hs : InR s) (ht : InR t) (hu : InR u) (h1 : Com s t) (h2 : Com s u) : Com s (t ++ u) := by
  unfold Com at *
  have a1 : redL (s ++ (t ++ u)) = redL ((t ++ s) ++ u) := by
    have := redL_congr (u := []) (v := u) InR.nil (hs.append ht) (ht.append hs) hu h1
    simpa [List.append_assoc] using this
  have a2 : redL (t ++ (s ++ u)) = redL (t ++ (u ++ s)) := by
    have := redL_congr (u := t) (v := []) ht (hs.append hu) (hu.append hs) InR.nil h2
    simpa using this
  rw [a1, List.append_assoc, a2, List.append_assoc]
theorem Com.rep {s t : List Int} (hs : InR s) (ht : Good t) (h : Com s t) (k : Nat) : Com s (Go.Proofs.Ytcjkgknmpgehbaa.rep t k) := by
  induction k with
  | zero => unfold Com; simp [Go.Proofs.Ytcjkgknmpgehbaa.rep]
  | succ k ih => exact Com.append hs (ht.rep k).inR ht.inR ih h
theorem Com.reps {s t : List Int} (hs : Good s) (ht : Good t) (h : Com s t) (j k : Nat) : Com (Go.Proofs.Ytcjkgknmpgehbaa.rep s j) (Go.Proofs.Ytcjkgknmpgehbaa.rep t k) :=
  (Com.rep (ht.rep k).inR hs (Com.symm (Com.rep hs.inR ht h k)) j).symm
theorem com_inv {r : List Int} (h : Good r) : Com (invL r) r := by
  unfold Com
  have a := redL_cancel (u := []) (p := r) (v := []) InR.nil h InR.nil
  have b := redL_cancel' (u := []) (p := r) (v := []) InR.nil h InR.nil
  simp only [List.nil_append, List.append_nil] at a b
  rw [a, b]
/-- Where two reduced words meet. -/
theorem red_meet {a b : List Int} (ha : Red a) (hb : Red b) (h : ¬ Red (a ++ b)) : 0 < a.length ∧ 0 < b.length ∧ inv (a.getD (a.length - 1) 0) (b.getD 0 0) = true := by
  have hal : 0 < a.length := by
    rcases Nat.eq_zero_or_pos a.length with e | e
    · have : a = [] := List.length_eq_zero_iff.1 e
      subst this
      exact absurd hb h
    · exact e
  have hbl : 0 < b.length := by
    rcases Nat.eq_zero_or_pos b.length with e | e
    · have : b = [] := List.length_eq_zero_iff.1 e
      subst this
      rw [List.append_nil] at h
      exact absurd ha h
    · exact e
  refine ⟨hal, hbl, ?_⟩
  cases hi : inv (a.getD (a.length - 1) 0) (b.getD 0 0) with
  | true => rfl
  | false =>
    exfalso
    apply h
    rw [red_iff] at ha hb ⊢
    intro i hi'
    rw [List.length_append] at hi'
    by_cases h1 : i + 1 < a.length
    · rw [getD_append_left (by omega), getD_append_left h1]
      exact ha i h1
    · by_cases h2 : i < a.length
      · have e : i = a.length - 1 := by omega
        have e1 : (a ++ b).getD i 0 = a.getD i 0 := getD_append_left h2
        have e2 : (a ++ b).getD (i + 1) 0 = b.getD (i + 1 - a.length) 0 := getD_append_right (by omega)
        rw [e1, e2, e, show a.length - 1 + 1 - a.length = 0 by omega]
        exact hi
      · have e1 : (a ++ b).getD i 0 = b.getD (i - a.length) 0 := getD_append_right (by omega)
        have e2 : (a ++ b).getD (i + 1) 0 = b.getD (i + 1 - a.length) 0 := getD_append_right (by omega)
        rw [e1, e2, show i + 1 - a.length = i - a.length + 1 by omega]
        exact hb _ (by omega)
theorem append_left_eq {a b c : List Int} (h : a ++ b = a ++ c) : b = c := List.append_cancel_left h
/-- A word that commutes as a list with a power of a primitive one is a power of it. -/
theorem list_com {p t : List Int} (hP : Parts p t) {i : Nat} (hi : 0 < i) : ∀ (n : Nat) (z : List Int), z.length ≤ n → z ++ rep t i = rep t i ++ z → ∃ k, z = rep t k := by
  intro n
  induction n with
  | zero =>
    intro z hz _
    exact ⟨0, List.length_eq_zero_iff.1 (by omega)⟩
  | succ n ih =>
    intro z hz h
    obtain ⟨c, hc⟩ : ∃ c, c = rep t i := ⟨_, rfl⟩
    have hcl : c.length = i * t.length := by rw [hc, rep_length]
    have hcp : 0 < c.length := by
      rw [hcl]
      exact Nat.mul_pos hi hP.pos
    rw [← hc] at h
    by_cases hl : c.length ≤ z.length
    · have e : z = c ++ z.drop c.length := by
        have h1 := congrArg (List.take c.length) h
        rw [List.take_append_of_le_length hl, List.take_left'] at h1
        · rw [← h1]
          exact (List.take_append_drop c.length z).symm ▸ by rw [List.length_take]; simp [Nat.min_eq_left hl]
        · rfl
      obtain ⟨z', hz'⟩ : ∃ z', z' = z.drop c.length := ⟨_, rfl⟩
      rw [← hz'] at e
      have h2 : z' ++ c = c ++ z' := by
        rw [e, List.append_assoc] at h
        exact append_left_eq h
      rw [hc] at h2
      obtain ⟨k, hk⟩ := ih z' (by rw [hz', List.length_drop]; omega) h2
      exact ⟨i + k, by rw [e, hk, hc, rep_add]⟩
    · have hlz : z.length ≤ c.length := by omega
      have e1 : c.take z.length = z := by
        have h1 := congrArg (List.take z.length) h
        rw [List.take_left' rfl, List.take_append_of_le_length hlz] at h1
        exact h1.symm
      have e2 : c.drop z.length ++ z = c := by
        have h1 : z ++ (c.drop z.length ++ z) = z ++ c := by
          rw [h, ← List.append_assoc]
          conv => lhs; rw [← e1]; rw [List.length_take, Nat.min_eq_left hlz, List.take_append_drop]
          rw [e1]
        exact append_left_eq h1
      have hrot : rotN c z.length = c := by
        unfold rotN
        rw [Nat.mod_eq_of_lt (by omega), e1, e2]
      have hne : c ≠ [] := by intro e; rw [e] at hcp; simp at hcp
      have hdv := rd_dvd hne hrot
      rw [hc, hP.rd hi] at hdv
      obtain ⟨k, hk⟩ := Nat.dvd_of_mod_eq_zero hdv
      have hki : k ≤ i := by
        apply Classical.byContradiction
        intro hcon
        have : i * t.length ≤ k * t.length := Nat.mul_le_mul_right _ (by omega)
        rw [Nat.mul_comm] at hk
        omega
      obtain ⟨j, hj⟩ : ∃ j, i = k + j := ⟨i - k, by omega⟩
      refine ⟨k, ?_⟩
      rw [← e1, hc, hj, rep_add, List.take_left']
      rw [rep_length, hk, Nat.mul_comm]
theorem invL_rep (t : List Int) (k : Nat) : invL (rep t k) = rep (invL t) k := by
  induction k with
  | zero => rfl
  | succ k ih => rw [rep, invL_append, ih, rep_succ']
theorem Red.invL {z : List Int} (h : Red z) (hi : InR z) : Red (Go.Proofs.Ytcjkgknmpgehbaa.invL z) := (h.map_ng hi).reverse
theorem invL_getD {z : List Int} {i : Nat} (h : i < z.length) : (invL z).getD i 0 = ng (z.getD (z.length - 1 - i) 0) := by
  unfold invL
  rw [List.getD_eq_getElem?_getD, List.getD_eq_getElem?_getD, List.getElem?_reverse (by rw [List.length_map]; exact h), List.getElem?_map, List.length_map, List.getElem?_eq_getElem (by omega)]
  rfl
theorem Parts.inv {p t : List Int} (h : Parts p t) : Parts p (Go.Proofs.Ytcjkgknmpgehbaa.invL t) := by
  refine ⟨h.gp, h.gt.inv, by rw [invL_length]; exact h.pos, ?_, ?_, ?_⟩
  · cases hs : sc (Go.Proofs.Ytcjkgknmpgehbaa.invL t) with
    | false => rfl
    | true =>
      obtain ⟨h1, h2, h3⟩ := sc_iff.1 hs
      rw [invL_length] at h1 h2
      rw [invL_getD h.pos, invL_getD (by omega)] at h2
      have e : t.length - 1 - (t.length - 1) = 0 := by omega
      rw [e, Nat.sub_zero] at h2
      have g0 := h.gt.at h.pos
      have gl := h.gt.at (show t.length - 1 < t.length by omega)
      rw [ng_ng (by omega)] at h2
      have : sc t = true := sc_iff.2 ⟨h1, h2.symm, good_inv_ne g0⟩
      rw [h.cyc] at this
      cases this
  · have := h.red.invL (h.gp.append (h.gt.append h.gp.inv)).inR
    rw [invL_append, invL_append, invL_invL h.gp.inR, List.append_assoc] at this
    exact this
  · intro e he hrot
    rw [invL_length]
    have hm : rotN t (t.length - e % t.length) = t := by
      have h1 := congrArg Go.Proofs.Ytcjkgknmpgehbaa.invL hrot
      rw [invL_invL h.gt.inR] at h1
      unfold rotN at h1
      rw [invL_append, invL_length] at h1
      have hlt := Nat.mod_lt e h.pos
      obtain ⟨k, hk⟩ : ∃ k, k = e % t.length := ⟨_, rfl⟩
      rw [← hk] at h1 hlt ⊢
      have d1 : Go.Proofs.Ytcjkgknmpgehbaa.invL ((Go.Proofs.Ytcjkgknmpgehbaa.invL t).take k) = t.drop (t.length - k) := by
        refine ext_getD (by rw [invL_length, List.length_take, invL_length, List.length_drop]; omega) (fun i hi => ?_)
        rw [invL_length, List.length_take, invL_length] at hi
        rw [invL_getD (by rw [List.length_take, invL_length]; exact hi), List.length_take, invL_length, Nat.min_eq_left (by omega)]
        rw [List.getD_eq_getElem?_getD, List.getElem?_take, if_pos (by omega), ← List.getD_eq_getElem?_getD, invL_getD (by omega), ng_ng (h.gt.inR.getD _ (by omega))]
        rw [List.getD_eq_getElem?_getD, List.getD_eq_getElem?_getD, List.getElem?_drop]
        congr 2
        omega
      have d2 : Go.Proofs.Ytcjkgknmpgehbaa.invL ((Go.Proofs.Ytcjkgknmpgehbaa.invL t).drop k) = t.take (t.length - k) := by
        refine ext_getD (by rw [invL_length, List.length_drop, invL_length, List.length_take]; omega) (fun i hi => ?_)
        rw [invL_length, List.length_drop, invL_length] at hi
        rw [invL_getD (by rw [List.length_drop, invL_length]; exact hi), List.length_drop, invL_length]
        rw [List.getD_eq_getElem?_getD, List.getElem?_drop, ← List.getD_eq_getElem?_getD, invL_getD (by omega), ng_ng (h.gt.inR.getD _ (by omega))]
        rw [List.getD_eq_getElem?_getD, List.getD_eq_getElem?_getD, List.getElem?_take, if_pos hi]
        congr 2
        omega
      rw [d1, d2] at h1
      by_cases hk0 : k = 0
      · rw [hk0, Nat.sub_zero, rotN_len]
      · unfold rotN
        rw [Nat.mod_eq_of_lt (by omega)]
        exact h1
    have hlt := Nat.mod_lt e h.pos
    by_cases hk0 : e % t.length = 0
    · exact Nat.le_of_dvd he (Nat.dvd_of_mod_eq_zero hk0)
    · have := h.prim _ (by omega) hm
      omega
/-- A reduced word that commutes with a power of a primitive one is a power of it or of its inverse. -/
theorem central {p t : List Int} (hP : Parts p t) {i : Nat} (hi : 0 < i) {y : List Int} (gy : Good y) (ry : redL y = y) (h : Com y (rep t i)) : ∃ k, y = rep t k ∨ y = rep (invL t) k := by
  have rt : Red t := hP.red.right.left
  have hrc := red_rep hP.gt hP.pos hP.cyc rt i
  have hsc := sc_rep hP.gt hP.pos hi hP.cyc
  obtain ⟨c, hc⟩ : ∃ c, c = rep t i := ⟨_, rfl⟩
  have gc : Good c := by rw [hc]; exact hP.gt.rep i
  have hcl : 0 < c.length := by rw [hc, rep_length]; exact Nat.mul_pos hi hP.pos
  have claimA : ∀ z, Good z → Com z c → redL (z ++ c) = z ++ c → ∃ k, z = rep t k := by
    intro z gz hz hzc
    have h1 : redL (c ++ z) = c ++ z := redL_len (gc.append gz).inR (by rw [← hz, hzc]; simp [Nat.add_comm])
    have h2 : z ++ c = c ++ z := by rw [← hzc, ← h1]; exact hz
    rw [hc] at h2
    exact list_com hP hi z.length z (Nat.le_refl _) h2
  rw [← hc] at h hrc hsc
  by_cases hA : redL (y ++ c) = y ++ c
  · obtain ⟨k, hk⟩ := claimA y gy h hA
    exact ⟨k, .inl hk⟩
  · have hRy := red_of_redL gy.inR ry
    have hn1 : ¬ Red (y ++ c) := fun hr => hA (hr.redL (gy.append gc).inR)
    obtain ⟨y1, _, y3⟩ := red_meet hRy hrc hn1
    have hlen : (redL (y ++ c)).length ≠ (y ++ c).length := fun e => hA (redL_len (gy.append gc).inR e)
    have hn2 : ¬ Red (c ++ y) := by
      intro hr
      have e := hr.redL (gc.append gy).inR
      apply hlen
      rw [h, e]
      simp [Nat.add_comm]
    obtain ⟨_, _, y4⟩ := red_meet hrc hRy hn2
    have g0 := gy.at y1
    have c0 := gc.at hcl
    have cl := gc.at (show c.length - 1 < c.length by omega)
    have hcomz : Com (invL y) c := by
      have h1 := redL_congr (u := invL y) (v := invL y) InR.invL (gy.append gc).inR (gc.append gy).inR InR.invL h
      have e1 : invL y ++ (y ++ c ++ invL y) = [] ++ (invL y ++ (y ++ (c ++ invL y))) := by simp only [List.nil_append, List.append_assoc]
      have e2 : invL y ++ (c ++ y ++ invL y) = (invL y ++ c) ++ (y ++ (invL y ++ [])) := by simp only [List.append_nil, List.append_assoc]
      rw [e1, e2, redL_cancel InR.nil gy (gc.append gy.inv).inR, redL_cancel' (gy.inv.append gc).inR gy InR.nil, List.nil_append, List.append_nil] at h1
      exact h1.symm
    have hzc : redL (invL y ++ c) = invL y ++ c := by
      apply Classical.byContradiction
      intro hne
      have hn3 : ¬ Red (invL y ++ c) := fun hr => hne (hr.redL (gy.inv.append gc).inR)
      obtain ⟨_, _, y5⟩ := red_meet (hRy.invL gy.inR) hrc hn3
      rw [invL_length, invL_getD (by omega)] at y5
      have e : y.length - 1 - (y.length - 1) = 0 := by omega
      rw [e, Good.ng g0] at y5
      have k4 := inv_eq y4
      have k5 := inv_eq y5
      by_cases h1 : 1 < c.length
      · have : sc c = true := sc_iff.2 ⟨h1, by rw [Good.ng cl]; omega, good_inv_ne c0⟩
        rw [hsc] at this
        cases this
      · have e3 : c.length - 1 = 0 := by omega
        rw [e3] at k4
        omega
    obtain ⟨k, hk⟩ := claimA (invL y) gy.inv hcomz hzc
    refine ⟨k, .inr ?_⟩
    rw [← invL_rep, ← hk, invL_invL gy.inR]
/-- Two words that are not trivial commute exactly if their roots agree up to the inverse. -/
theorem comm_iff {a b : List Int} (ga : Good a) (gb : Good b) (ha : redL a ≠ []) (hb : redL b ≠ []) :
    mulL a b = mulL b a ↔ (rootL (redL a)).1 = (rootL (redL b)).1 ∨ (rootL (redL a)).1 = invL (rootL (redL b)).1 := by
  have gx := ga.red
  have gy := gb.red
  have rx := redL_redL ga.inR
  have ry := redL_redL gb.inR
  have hm : mulL a b = mulL b a ↔ Com (redL a) (redL b) := by
    unfold mulL Com
    rw [redL_append_red ga.inR gb.inR, redL_append_red gb.inR ga.inR]
  rw [hm]
  obtain ⟨x, hx⟩ : ∃ x, x = redL a := ⟨_, rfl⟩
  obtain ⟨y, hy⟩ : ∃ y, y = redL b := ⟨_, rfl⟩
  rw [← hx] at gx rx ha ⊢
  rw [← hy] at gy ry hb ⊢
  obtain ⟨p, t, i, hP, hi, ex⟩ := parts_of gx rx ha
  constructor
  · intro hc
    obtain ⟨y', hy'⟩ : ∃ y', y' = redL (invL p ++ (y ++ p)) := ⟨_, rfl⟩
    have g1 : Good (invL p ++ (y ++ p)) := hP.gp.inv.append (gy.append hP.gp)
    have gy' : Good y' := by rw [hy']; exact g1.red
    have ry' : redL y' = y' := by rw [hy']; exact redL_redL g1.inR
    have gc := hP.gt.rep i
    have hcom : Com y' (rep t i) := by
      unfold Com
      rw [hy', redL_left g1.inR gc.inR, redL_right gc.inR g1.inR]
      have h1 := redL_congr (u := invL p) (v := p) InR.invL (gx.append gy).inR (gy.append gx).inR hP.gp.inR hc
      rw [ex] at h1
      have e1 : invL p ++ (p ++ (rep t i ++ invL p) ++ y ++ p) = [] ++ (invL p ++ (p ++ (rep t i ++ (invL p ++ (y ++ p))))) := by simp only [List.nil_append, List.append_assoc]
      have e2 : invL p ++ (y ++ (p ++ (rep t i ++ invL p)) ++ p) = (invL p ++ (y ++ (p ++ rep t i))) ++ (invL p ++ (p ++ [])) := by simp only [List.append_nil, List.append_assoc]
      rw [e1, e2, redL_cancel InR.nil hP.gp (gc.append g1).inR, redL_cancel (hP.gp.inv.append (gy.append (hP.gp.append gc))).inR hP.gp InR.nil, List.nil_append, List.append_nil] at h1
      have e3 : invL p ++ (y ++ p) ++ rep t i = invL p ++ (y ++ (p ++ rep t i)) := by simp only [List.append_assoc]
      rw [e3]
      exact h1.symm
    have hback : redL (p ++ (y' ++ invL p)) = y := by
      have h1 : redL y' = redL (invL p ++ (y ++ p)) := by rw [ry', hy']
      have h2 := redL_congr (u := p) (v := invL p) hP.gp.inR gy'.inR g1.inR InR.invL h1
      have e : p ++ (invL p ++ (y ++ p) ++ invL p) = [] ++ (p ++ (invL p ++ (y ++ (p ++ (invL p ++ []))))) := by simp only [List.nil_append, List.append_nil, List.append_assoc]
      rw [e, redL_cancel' InR.nil hP.gp (gy.append (hP.gp.append (hP.gp.inv.append Good.nil))).inR, List.nil_append] at h2
      rw [h2, redL_cancel' gy.inR hP.gp InR.nil, List.append_nil, ry]
    have hk0 : ∀ s : List Int, y' = rep s 0 → False := by
      intro s e
      have e' : y' = [] := e
      rw [e', List.nil_append] at hback
      have := redL_cancel' (u := []) (p := p) (v := []) InR.nil hP.gp InR.nil
      simp only [List.nil_append, List.append_nil] at this
      rw [this] at hback
      exact hb hback.symm
    obtain ⟨k, hk | hk⟩ := central hP hi gy' ry' hcom
    · have hkp : 0 < k := by
        rcases Nat.eq_zero_or_pos k with e | e
        · rw [e] at hk; exact absurd (hk0 t hk) (fun h => h)
        · exact e
      left
      rw [hk, (hP.redW hkp).redL (hP.goodW k).inR] at hback
      rw [ex, hP.root hi, ← hback, hP.root hkp]
    · have hQ := hP.inv
      have hkp : 0 < k := by
        rcases Nat.eq_zero_or_pos k with e | e
        · rw [e] at hk; exact absurd (hk0 (invL t) hk) (fun h => h)
        · exact e
      right
      rw [hk, (hQ.redW hkp).redL (hQ.goodW k).inR] at hback
      rw [ex, hP.root hi, ← hback, hQ.root hkp]
      show p ++ (t ++ invL p) = invL (p ++ (invL t ++ invL p))
      rw [invL_append, invL_append, invL_invL hP.gp.inR, invL_invL hP.gt.inR, List.append_assoc]
  · intro hroot
    obtain ⟨q, s, j, hQ, hj, ey⟩ := parts_of gy ry hb
    obtain ⟨r, hr⟩ : ∃ r, r = p ++ (t ++ invL p) := ⟨_, rfl⟩
    obtain ⟨r', hr'⟩ : ∃ r', r' = q ++ (s ++ invL q) := ⟨_, rfl⟩
    have gr : Good r := by rw [hr]; exact hP.gp.append (hP.gt.append hP.gp.inv)
    have gr' : Good r' := by rw [hr']; exact hQ.gp.append (hQ.gt.append hQ.gp.inv)
    have e1 : (rootL x).1 = r := by rw [ex, hP.root hi, hr]
    have e2 : (rootL y).1 = r' := by rw [ey, hQ.root hj, hr']
    have ex2 : x = redL (rep r i) := by rw [hr, rep_conj hP.gp hP.gt, ← ex, rx]
    have ey2 : y = redL (rep r' j) := by rw [hr', rep_conj hQ.gp hQ.gt, ← ey, ry]
    rw [e1, e2] at hroot
    have hcom : Com r r' := by
      rcases hroot with h | h
      · rw [h]; rfl
      · rw [h]; exact com_inv gr'
    have h1 := Com.reps gr gr' hcom i j
    unfold Com at h1 ⊢
    rw [ex2, ey2, redL_append_red (gr.rep i).inR (gr'.rep j).inR, redL_append_red (gr'.rep j).inR (gr.rep i).inR]
    exact h1
end Go.Proofs.Ytcjkgknmpgehbaa
