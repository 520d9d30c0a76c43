/- Plain mathematics of cyclic words, for the program's own ways: the first least rotation found in one pass, the least period, the rotation between two words. -/
import Derived.Test.YtcjkgknmpgehbaaMZ3
namespace Go.Proofs.Ytcjkgknmpgehbaa
open Go.RowKit
set_option linter.unusedVariables false

/-- The first and the last letter, as the program asks. -/
theorem sc_inv {x : List Int} (hx : InR x) (h : 1 < x.length) : sc x = inv (x.getD 0 0) (x.getD (x.length - 1) 0) := by
  have h0 := hx.getD 0 (by omega)
  have h1 := hx.getD (x.length - 1) (by omega)
  obtain ⟨a, ha⟩ : ∃ a, a = x.getD 0 0 := ⟨_, rfl⟩
  obtain ⟨b, hb⟩ : ∃ b, b = x.getD (x.length - 1) 0 := ⟨_, rfl⟩
  unfold sc inv
  rw [← ha] at h0 ⊢
  rw [← hb] at h1 ⊢
  rw [decide_eq_decide]
  have n0 : ng a = if a = -9223372036854775808 then -9223372036854775808 else -a := by
    split
    · rename_i e; rw [e, ng_min]
    · exact ng_of (by omega) h0.2
  have n1 : ng b = if b = -9223372036854775808 then -9223372036854775808 else -b := by
    split
    · rename_i e; rw [e, ng_min]
    · exact ng_of (by omega) h1.2
  rw [n0, n1]
  constructor
  · rintro ⟨_, h3, h4⟩
    split at h3 <;> split at h4 <;> omega
  · rintro ⟨h3, h4⟩
    refine ⟨h, ?_, ?_⟩ <;> split <;> omega
/-- A core that is empty has taken nothing off. -/
theorem coreF_ne : ∀ (f : Nat) {x p : List Int}, InR x → Red x → x ≠ [] → (coreF f x p).1 ≠ [] := by
  intro f
  induction f with
  | zero => intro x p _ _ h; exact h
  | succ f ih =>
    intro x p hi hr hne
    cases hs : sc x with
    | false => rw [coreF_no hs]; exact hne
    | true =>
      rw [coreF_yes hs]
      have hl := (sc_iff.1 hs).1
      have he := ends_mid hl
      by_cases hm : mid x = []
      · exfalso
        have h1 := sc_inv hi hl
        rw [hs] at h1
        rw [hm] at he
        have := hr [] (x.getD 0 0) (x.getD (x.length - 1) 0) [] (by simpa using he)
        rw [this] at h1
        cases h1
      · refine ih (mid_in hi) ?_ hm
        rw [he] at hr
        exact hr.right.left
theorem coreL_nil {w : List Int} (hw : InR w) (h : (coreL w).1 = []) : redL w = [] ∧ (coreL w).2 = [] := by
  have hr : redL w = [] := by
    apply Classical.byContradiction
    intro hne
    exact coreF_ne _ (redL_in hw) (red_of_redL (redL_in hw) (redL_redL hw)) hne h
  refine ⟨hr, ?_⟩
  unfold coreL
  rw [hr]
  rfl
/-- Place j is not the first place of the least rotation. -/
def Beaten (w : List Int) (j : Nat) : Prop := ∃ k, k < w.length ∧ (cmpL (rotN w k) (rotN w j) < 0 ∨ (rotN w k = rotN w j ∧ k < j))
theorem cmpL_first : ∀ {a b : List Int} {i : Nat}, i < a.length → a.length = b.length → (∀ t, t < i → a.getD t 0 = b.getD t 0) → ordI (a.getD i 0) (b.getD i 0) < 0 → cmpL a b < 0 := by
  intro a
  induction a with
  | nil => intro b i h; simp at h
  | cons x a ih =>
    intro b i h hl ht ho
    cases b with
    | nil => simp at hl
    | cons y b =>
      rw [cmpL_cons]
      cases i with
      | zero =>
        simp only [List.getD_cons_zero] at ho
        rw [if_neg (by omega)]
        exact ho
      | succ i =>
        have h0 := ht 0 (by omega)
        simp only [List.getD_cons_zero] at h0
        subst h0
        rw [if_pos (by unfold ordI; rw [if_pos rfl])]
        refine ih (i := i) (by simpa using h) (by simpa using hl) (fun t h => ?_) (by simpa using ho)
        have := ht (t + 1) (by omega)
        simpa using this
theorem ordI_flip {x y : Int} (hx : -9223372036854775808 ≤ x ∧ x ≤ 9223372036854775807) (hy : -9223372036854775808 ≤ y ∧ y ≤ 9223372036854775807) (h : 0 < ordI x y) : ordI y x < 0 := by
  have k1 := ordI_key hx hy
  have k2 := ordI_key hy hx
  rw [k2.1]
  have h1 : ¬ key x < key y := fun h' => by have := k1.1.2 h'; omega
  have h2 : x ≠ y := fun h' => by have := k1.2.2 h'; omega
  have h3 : key x ≠ key y := by
    intro h'
    unfold key at h'
    apply h2
    split at h' <;> split at h' <;> omega
  omega
theorem rot_first {w : List Int} {p q i : Nat} (hi : i < w.length) (ht : ∀ t, t < i → w.getD ((p + t) % w.length) 0 = w.getD ((q + t) % w.length) 0) (ho : ordI (w.getD ((p + i) % w.length) 0) (w.getD ((q + i) % w.length) 0) < 0)
    {t : Nat} (hti : t ≤ i) : cmpL (rotN w (p + t)) (rotN w (q + t)) < 0 := by
  have e : ∀ s, s < w.length → ∀ p : Nat, (rotN w (p + t)).getD s 0 = w.getD ((p + (t + s)) % w.length) 0 := by
    intro s hs p
    rw [rotN_getD _ _ _ hs]
    congr 2
    omega
  refine cmpL_first (i := i - t) (by rw [rotN_length]; omega) (by rw [rotN_length, rotN_length]) (fun s hs => ?_) ?_
  · rw [e s (by omega), e s (by omega)]
    exact ht (t + s) (by omega)
  · rw [e _ (by omega), e _ (by omega), show t + (i - t) = i by omega]
    exact ho
theorem lrG_first {w : List Int} (hw : InR w) (k : Nat) : ∀ j, j < (lrG w k).2 → rotN w j ≠ (lrG w k).1 := by
  induction k with
  | zero => intro j hj; exact absurd hj (Nat.not_lt_zero _)
  | succ k ih =>
    intro j hj
    by_cases h : cmpI (rotN w (k + 1)) (lrG w k).1 < 0
    · rw [lrG_yes h] at hj ⊢
      intro he
      have hl := lrG_least hw k j (by have h' : j < k + 1 := hj; omega)
      rw [he] at hl
      have hc : cmpL (rotN w (k + 1)) (lrG w k).1 < 0 := by rwa [cmpI_same (by rw [rotN_length, lrG_length])] at h
      have hq := leL_anti (lrG_in hw k) (rotN_in hw (k + 1)) (by rw [lrG_length, rotN_length]) hl (show cmpL _ _ ≤ 0 by omega)
      rw [hq, cmpL_self] at hc
      omega
    · rw [lrG_no h] at hj ⊢
      exact ih j hj
theorem not_beaten {w : List Int} (hw : InR w) : ¬ Beaten w (lrL w).2 := by
  rintro ⟨k, hk, h | ⟨h1, h2⟩⟩
  · have hl := lrL_least hw k
    rw [lrL_rot] at hl
    have hq := leL_anti (rotN_in hw _) (rotN_in hw k) (by rw [rotN_length, rotN_length]) hl (show cmpL _ _ ≤ 0 by omega)
    rw [hq, cmpL_self] at h
    omega
  · rw [← lrL_rot] at h1
    exact lrG_first hw (w.length - 1) k h2 h1
theorem lrL_lt {w : List Int} (h : 0 < w.length) : (lrL w).2 < w.length := by
  have := (lrG_rot w (w.length - 1)).2
  unfold lrL
  omega
/-- What the pass knows: best and rival; all other places below the rival are out. -/
structure Pass (w : List Int) (b r : Nat) : Prop where
  lt : b < r
  bn : b < w.length
  out : ∀ j, j < w.length → j < r → j ≠ b → Beaten w j
theorem Pass.start {w : List Int} (h : 0 < w.length) : Pass w 0 1 := ⟨by omega, h, fun j _ h1 h2 => by omega⟩
theorem beaten_mod {w : List Int} {k j : Nat} (hn : 0 < w.length) (h : cmpL (rotN w k) (rotN w j) < 0) : Beaten w j :=
  ⟨k % w.length, Nat.mod_lt _ hn, .inl (by rw [rotN_mod]; exact h)⟩
theorem Pass.less {w : List Int} {b r i : Nat} (h : Pass w b r) (hi : i < w.length) (ht : ∀ t, t < i → w.getD ((b + t) % w.length) 0 = w.getD ((r + t) % w.length) 0) (ho : ordI (w.getD ((b + i) % w.length) 0) (w.getD ((r + i) % w.length) 0) < 0) :
    Pass w b (r + (i + 1)) := by
  refine ⟨by have := h.lt; omega, h.bn, fun j h1 h2 h3 => ?_⟩
  by_cases hj : j < r
  · exact h.out j h1 hj h3
  · have := rot_first hi ht ho (t := j - r) (by omega)
    rw [show r + (j - r) = j by omega] at this
    exact beaten_mod (by omega) this
theorem Pass.more {w : List Int} {b r i : Nat} (hw : InR w) (h : Pass w b r) (hr : r < w.length) (hi : i < w.length) (ht : ∀ t, t < i → w.getD ((b + t) % w.length) 0 = w.getD ((r + t) % w.length) 0) (ho : 0 < ordI (w.getD ((b + i) % w.length) 0) (w.getD ((r + i) % w.length) 0)) :
    Pass w r (max r (b + i) + 1) := by
  have hn : 0 < w.length := by omega
  have ho2 := ordI_flip (hw.getD _ (Nat.mod_lt _ hn)) (hw.getD _ (Nat.mod_lt _ hn)) ho
  have key := fun t (hti : t ≤ i) => rot_first hi (fun t h => (ht t h).symm) ho2 (t := t) hti
  refine ⟨by omega, hr, fun j h1 h2 h3 => ?_⟩
  by_cases hj : j < r ∧ j ≠ b
  · exact h.out j h1 hj.1 hj.2
  · have hjb : b ≤ j := by have := h.lt; omega
    have hji : j ≤ b + i := by have := h.lt; omega
    have := key (j - b) (by omega)
    rw [show b + (j - b) = j by omega] at this
    exact beaten_mod hn this
theorem Pass.all {w : List Int} {b r : Nat} (h : Pass w b r) (ht : ∀ t, t < w.length → w.getD ((b + t) % w.length) 0 = w.getD ((r + t) % w.length) 0) : Pass w b w.length := by
  have e : rotN w b = rotN w r := by
    refine ext_getD (by rw [rotN_length, rotN_length]) (fun i hi => ?_)
    rw [rotN_length] at hi
    rw [rotN_getD _ _ _ hi, rotN_getD _ _ _ hi, Nat.add_comm i b, Nat.add_comm i r]
    exact ht i hi
  refine ⟨h.bn, h.bn, fun j h1 _ h3 => ?_⟩
  by_cases hj : j < r
  · exact h.out j h1 hj h3
  · have hlt := h.lt
    refine ⟨j - (r - b), by omega, .inr ⟨?_, by omega⟩⟩
    have e1 : rotN w (b + (j - r)) = rotN w (r + (j - r)) := by rw [← rotN_rotN, ← rotN_rotN, e]
    rw [show b + (j - r) = j - (r - b) by omega, show r + (j - r) = j by omega] at e1
    exact e1
theorem Pass.done {w : List Int} {b r : Nat} (hw : InR w) (h : Pass w b r) (hr : w.length ≤ r) : b = (lrL w).2 := by
  apply Classical.byContradiction
  intro hne
  have hbn := h.bn
  have hm := lrL_lt (w := w) (by omega)
  exact not_beaten hw (h.out _ hm (by omega) (fun e => hne e.symm))
/-- The least period that divides the length; 0 of the empty word. -/
def per (w : List Int) : Nat := if w = [] then 0 else rd w
theorem per_nil : per [] = 0 := rfl
theorem per_of {w : List Int} (h : w ≠ []) : per w = rd w := if_neg h
def Shifts (w : List Int) (d : Nat) : Prop := ∀ i, i + d < w.length → w.getD i 0 = w.getD (i + d) 0
theorem shifts_mod {w : List Int} {d : Nat} (h0 : 0 < d) (h : Shifts w d) : ∀ i, i < w.length → w.getD i 0 = w.getD (i % d) 0 := by
  intro i
  induction i using Nat.strongRecOn with
  | _ i ih =>
    intro hi
    by_cases hd : i < d
    · rw [Nat.mod_eq_of_lt hd]
    · have h1 := h (i - d) (by omega)
      rw [show i - d + d = i by omega] at h1
      rw [← h1, ih (i - d) (by omega) (by omega), Nat.mod_eq_sub_mod (by omega : i ≥ d)]
theorem shifts_iff {w : List Int} {d : Nat} (h0 : 0 < d) (hd : d ≤ w.length) (hm : w.length % d = 0) : Shifts w d ↔ rotN w d = w := by
  constructor
  · intro h
    refine ext_getD (rotN_length _ _) (fun i hi => ?_)
    rw [rotN_length] at hi
    rw [rotN_getD _ _ _ hi]
    by_cases h1 : i + d < w.length
    · rw [Nat.mod_eq_of_lt h1]; exact (h i h1).symm
    · rw [shifts_mod h0 h _ (Nat.mod_lt _ (by omega)), shifts_mod h0 h i hi, Nat.mod_mod_of_dvd _ (Nat.dvd_of_mod_eq_zero hm), Nat.add_mod_right]
  · intro h i hi
    have h1 := rotN_getD w d i (by omega)
    rw [h, Nat.mod_eq_of_lt hi] at h1
    exact h1
theorem rd_eq {w : List Int} {d : Nat} (h0 : 0 < d) (hd : d ≤ w.length) (hm : w.length % d = 0) (hr : d = w.length ∨ Shifts w d) (hf : ∀ e, 0 < e → e < d → ¬ (w.length % e = 0 ∧ Shifts w e)) : rd w = d := by
  have hne : w ≠ [] := by intro e; rw [e] at hd; simp at hd; omega
  obtain ⟨r1, r2, r3, r4, r5⟩ := rd_spec hne
  have hrot : rotN w d = w := by
    rcases hr with rfl | hr
    · exact rotN_len w
    · exact (shifts_iff h0 hd hm).1 hr
  apply Classical.byContradiction
  intro hq
  by_cases hlt : rd w < d
  · exact hf (rd w) (by omega) hlt ⟨r3, (shifts_iff (by omega) r2 r3).2 r4⟩
  · exact r5 d (by omega) (by omega) ⟨hm, hrot⟩
theorem per_le (w : List Int) : per w ≤ w.length := by
  unfold per
  split
  · exact Nat.zero_le _
  · rename_i h; exact (rd_spec h).2.1
/-- The number by which x is rotated to y, as the program reckons it. -/
def btw (x y : List Int) : Nat := ((((lrL x).2 : Int) - ((lrL y).2 : Int)) % (per x : Int)).toNat
theorem conjK_eq {x y : List Int} {m : Nat} (hm : rotN x m = y) : ∀ (f d : Nat), d ≤ m → m < d + f → (∀ e, d ≤ e → e < m → rotN x e ≠ y) → conjK x y f d = some m := by
  intro f
  induction f with
  | zero => intro d h1 h2; omega
  | succ f ih =>
    intro d h1 h2 h3
    by_cases h : d = m
    · subst h; exact conjK_yes hm
    · rw [conjK_no (h3 d (Nat.le_refl _) (by omega))]
      exact ih (d + 1) (by omega) (by omega) (fun e h4 h5 => h3 e (by omega) h5)
theorem btw_lt {x y : List Int} (h : x ≠ []) : btw x y < rd x := by
  have h1 := (rd_spec h).1
  unfold btw
  rw [per_of h]
  have h2 := Int.emod_lt_of_pos (((lrL x).2 : Int) - ((lrL y).2 : Int)) (show (0 : Int) < (rd x : Int) by omega)
  have h3 := Int.emod_nonneg (((lrL x).2 : Int) - ((lrL y).2 : Int)) (show (rd x : Int) ≠ 0 by omega)
  omega
theorem btw_spec {x y : List Int} (hne : x ≠ []) (hl : x.length = y.length) (he : (lrL x).1 = (lrL y).1) : conjK x y x.length 0 = some (btw x y) := by
  have hpos : 0 < x.length := by
    rcases Nat.eq_zero_or_pos x.length with h | h
    · exact absurd (List.length_eq_zero_iff.1 h) hne
    · exact h
  obtain ⟨r1, r2, r3, r4, _⟩ := rd_spec hne
  have hlt := btw_lt (y := y) hne
  have hi := lrL_lt (w := x) hpos
  have hk := lrL_lt (w := y) (by omega)
  rw [lrL_rot, lrL_rot] at he
  obtain ⟨m, hm⟩ : ∃ m, m = btw x y := ⟨_, rfl⟩
  obtain ⟨i, hii⟩ : ∃ i, i = (lrL x).2 := ⟨_, rfl⟩
  obtain ⟨k, hkk⟩ : ∃ k, k = (lrL y).2 := ⟨_, rfl⟩
  have hmd : m = (((i : Int) - (k : Int)) % (rd x : Int)).toNat := by rw [hm, hii, hkk]; unfold btw; rw [per_of hne]
  rw [← hm] at hlt ⊢
  rw [← hii] at hi he
  rw [← hkk] at hk he
  obtain ⟨q, hq⟩ := Nat.dvd_of_mod_eq_zero r3
  have hn : rotN x (i + (y.length - k)) = y := by
    rw [← rotN_rotN, he, rotN_rotN, show k + (y.length - k) = y.length by omega, rotN_len]
  have hmod : (i + (y.length - k)) % rd x = m := by
    have h1 : (((i + (y.length - k) : Nat) : Int)) % (rd x : Int) = ((i : Int) - (k : Int)) % (rd x : Int) := by
      have e : (((i + (y.length - k) : Nat) : Int)) = ((i : Int) - (k : Int)) + (rd x : Int) * (q : Int) := by
        have : ((x.length : Nat) : Int) = (rd x : Int) * (q : Int) := by rw [hq]; simp
        omega
      rw [e, Int.add_mul_emod_self_left]
    have h2 : (((i + (y.length - k)) % rd x : Nat) : Int) = ((i : Int) - (k : Int)) % (rd x : Int) := by rw [← h1]; simp
    omega
  have hrot : rotN x m = y := by
    have h1 : rotN x (rd x * ((i + (y.length - k)) / rd x) + (i + (y.length - k)) % rd x) = y := by rw [Nat.div_add_mod]; exact hn
    rw [← rotN_rotN, rotN_mul r4, hmod] at h1
    exact h1
  refine conjK_eq hrot x.length 0 (Nat.zero_le _) (by omega) (fun e _ h2 h3 => ?_)
  have h4 : rotN x (e + (x.length - m)) = x := by
    rw [← rotN_rotN, h3, ← hrot, rotN_rotN, show m + (x.length - m) = x.length by omega, rotN_len]
  have h5 := rd_dvd hne h4
  have h6 : (e + (x.length - m) + (m - e)) % rd x = 0 := by rw [show e + (x.length - m) + (m - e) = x.length by omega]; exact r3
  have h7 : (m - e) % rd x = 0 := by
    rw [Nat.add_mod, h5, Nat.zero_add, Nat.mod_mod] at h6
    exact h6
  rw [Nat.mod_eq_of_lt (by omega)] at h7
  omega
theorem mul3 {a b c : List Int} (ha : InR a) (hb : InR b) (hc : InR c) : mulL (mulL a b) c = redL (a ++ (b ++ c)) := by
  unfold mulL
  rw [redL_left (ha.append hb) hc, List.append_assoc]
/-- AreConjugate, as the program reckons. -/
theorem conjW_prog {a b : List Int} (ha : InR a) (hb : InR b) : conjW a b = if (lrL (coreL a).1).1 = (lrL (coreL b).1).1 then (redL ((coreL a).2 ++ ((coreL a).1.take (btw (coreL a).1 (coreL b).1) ++ invL (coreL b).2)), true) else ([], false) := by
  obtain ⟨ix, ip⟩ := coreL_in ha
  obtain ⟨iy, iq⟩ := coreL_in hb
  unfold conjW
  by_cases hl : (coreL a).1.length = (coreL b).1.length
  · rw [if_neg (by simpa using hl)]
    by_cases h0 : (coreL a).1.length = 0
    · have hx := List.length_eq_zero_iff.1 h0
      have hy : (coreL b).1 = [] := List.length_eq_zero_iff.1 (by omega)
      rw [if_pos h0, hx, hy, if_pos rfl, (coreL_nil ha hx).2, (coreL_nil hb hy).2]
      rfl
    · have hne : (coreL a).1 ≠ [] := fun e => h0 (by rw [e]; rfl)
      rw [if_neg h0]
      by_cases he : (lrL (coreL a).1).1 = (lrL (coreL b).1).1
      · rw [if_pos he, btw_spec hne hl he]
        show (mulL (mulL _ _) _, true) = _
        rw [mul3 ip (ix.take _) InR.invL]
      · rw [if_neg he]
        cases hk : conjK (coreL a).1 (coreL b).1 (coreL a).1.length 0 with
        | none => rfl
        | some k =>
          obtain ⟨h1, _, h2⟩ := conjK_some hk
          exact absurd ((lrL_iff ix iy hl (by omega)).1 ⟨k, by omega, h1⟩) he
  · rw [if_pos hl, if_neg]
    intro he
    apply hl
    have := congrArg List.length he
    rwa [lrL_length, lrL_length] at this
theorem rootL_prog {w : List Int} (hw : InR w) (h : (coreL w).1 ≠ []) : rootL w = (redL ((coreL w).2 ++ ((coreL w).1.take (rd (coreL w).1) ++ invL (coreL w).2)), (((coreL w).1.length / rd (coreL w).1 : Nat) : Int)) := by
  obtain ⟨ix, ip⟩ := coreL_in hw
  unfold rootL
  rw [if_neg h, mul3 ip (ix.take _) InR.invL]
  rfl
end Go.Proofs.Ytcjkgknmpgehbaa
