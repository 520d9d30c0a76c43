/- Plain mathematics of cyclic words: rotations, the least one, cores, roots. -/
import Derived.Test.YtcjkgknmpgehbaaMX
namespace Go.Proofs.Ytcjkgknmpgehbaa
open Go.RowKit
set_option linter.unusedVariables false

/-- Rotated by m places, m below the length. -/
def rotN (w : List Int) (m : Nat) : List Int := w.drop (m % w.length) ++ w.take (m % w.length)
theorem rotN_length (w : List Int) (m : Nat) : (rotN w m).length = w.length := by
  unfold rotN
  rw [List.length_append, List.length_drop, List.length_take]
  rcases Nat.eq_zero_or_pos w.length with h | h
  · rw [h]; simp
  · have := Nat.mod_lt m h; omega
theorem rotN_nil (m : Nat) : rotN [] m = [] := by simp [rotN]
theorem rotN_getD (w : List Int) (m i : Nat) (h : i < w.length) : (rotN w m).getD i 0 = w.getD ((i + m) % w.length) 0 := by
  have hm := Nat.mod_lt m (show 0 < w.length by omega)
  have e : (i + m) % w.length = (i + m % w.length) % w.length := by rw [Nat.add_mod, Nat.mod_eq_of_lt h]
  rw [e]
  unfold rotN
  obtain ⟨k, hk⟩ : ∃ k, k = m % w.length := ⟨_, rfl⟩
  rw [← hk] at hm ⊢
  rw [List.getD_eq_getElem?_getD, List.getD_eq_getElem?_getD]
  by_cases hi : i < w.length - k
  · rw [List.getElem?_append_left (by rw [List.length_drop]; exact hi), List.getElem?_drop, Nat.mod_eq_of_lt (by omega), Nat.add_comm]
  · have e2 : (i + k) % w.length = i + k - w.length := by
      rw [Nat.mod_eq_sub_mod (by omega), Nat.mod_eq_of_lt (by omega)]
    rw [List.getElem?_append_right (by rw [List.length_drop]; omega), List.length_drop, List.getElem?_take, if_pos (by omega), e2]
    congr 2
    omega
theorem ext_getD {a b : List Int} (hl : a.length = b.length) (h : ∀ i, i < a.length → a.getD i 0 = b.getD i 0) : a = b := by
  refine List.ext_getElem hl (fun i h1 h2 => ?_)
  have := h i h1
  simpa [List.getD_eq_getElem?_getD, h1, h2] using this
theorem rotN_mod (w : List Int) (m : Nat) : rotN w (m % w.length) = rotN w m := by
  unfold rotN
  rw [Nat.mod_mod]
theorem rotN_rotN (w : List Int) (a b : Nat) : rotN (rotN w a) b = rotN w (a + b) := by
  refine ext_getD (by rw [rotN_length, rotN_length, rotN_length]) (fun i hi => ?_)
  rw [rotN_length, rotN_length] at hi
  rw [rotN_getD _ _ _ (by rw [rotN_length]; exact hi), rotN_length, rotN_getD _ _ _ (Nat.mod_lt _ (by omega)), rotN_getD _ _ _ hi]
  congr 1
  rw [Nat.mod_add_mod]
  congr 1
  omega
theorem rotN_zero (w : List Int) : rotN w 0 = w := by simp [rotN]
theorem rotN_len (w : List Int) : rotN w w.length = w := by simp [rotN]
theorem rotN_in {w : List Int} (h : InR w) (m : Nat) : InR (rotN w m) := by
  unfold rotN
  exact InR.append (fun x hx => h x (List.mem_of_mem_drop hx)) (fun x hx => h x (List.mem_of_mem_take hx))
theorem mem_rotN {w : List Int} {m : Nat} {x : Int} (h : x ∈ rotN w m) : x ∈ w := by
  unfold rotN at h
  rcases List.mem_append.1 h with h1 | h1
  · exact List.mem_of_mem_drop h1
  · exact List.mem_of_mem_take h1
/-- Rotated by k places, k any int. -/
def rotL (w : List Int) (k : Int) : List Int := rotN w (k % (w.length : Int)).toNat
theorem rotL_length (w : List Int) (k : Int) : (rotL w k).length = w.length := rotN_length _ _
theorem rotL_nat (w : List Int) (m : Nat) : rotL w (m : Int) = rotN w m := by
  unfold rotL
  have e : ((m : Int) % (w.length : Int)).toNat = m % w.length := by omega
  rw [e, rotN_mod]
theorem rotL_step {w : List Int} {k : Int} {i : Nat} (h : i < w.length) : (rotL w k).take (i + 1) = (rotL w k).take i ++ [w.getD (((i : Int) + k) % (w.length : Int)).toNat 0] := by
  have hl : i < (rotL w k).length := by rw [rotL_length]; exact h
  have hg : (rotL w k).getD i 0 = w.getD (((i : Int) + k) % (w.length : Int)).toNat 0 := by
    unfold rotL
    rw [rotN_getD _ _ _ h]
    congr 1
    have h0 : 0 ≤ k % (w.length : Int) := Int.emod_nonneg _ (by omega)
    have e : (((i + (k % (w.length : Int)).toNat) % w.length : Nat) : Int) = ((i : Int) + k) % (w.length : Int) := by
      rw [Int.natCast_emod, Int.natCast_add, Int.toNat_of_nonneg h0, Int.add_emod_emod]
    omega
  rw [List.take_succ_eq_append_getElem hl, ← hg]
  simp [List.getD_eq_getElem?_getD, hl]
/-- The index that the model reckons. -/
theorem rot_index {n i : Nat} {k : Int} (hn : i < n) :
    (((i : Int) + k.tmod (n : Int)).tmod (n : Int) + (n : Int)).tmod (n : Int) = ((i : Int) + k) % (n : Int) ∧ -(n : Int) < k.tmod (n : Int) ∧ k.tmod (n : Int) < (n : Int) ∧
      -(n : Int) < ((i : Int) + k.tmod (n : Int)).tmod (n : Int) ∧ ((i : Int) + k.tmod (n : Int)).tmod (n : Int) < (n : Int) ∧ 0 ≤ ((i : Int) + k) % (n : Int) ∧ ((i : Int) + k) % (n : Int) < (n : Int) := by
  have hpos : (0 : Int) < (n : Int) := by omega
  have b1 := Int.tmod_lt_of_pos k hpos
  have b2 : -(n : Int) < k.tmod (n : Int) := by
    have := Int.tmod_lt_of_pos (-k) hpos
    rw [Int.neg_tmod] at this
    omega
  have b3 := Int.tmod_lt_of_pos ((i : Int) + k.tmod (n : Int)) hpos
  have b4 : -(n : Int) < ((i : Int) + k.tmod (n : Int)).tmod (n : Int) := by
    have := Int.tmod_lt_of_pos (-((i : Int) + k.tmod (n : Int))) hpos
    rw [Int.neg_tmod] at this
    omega
  refine ⟨?_, b2, b1, b4, b3, Int.emod_nonneg _ (by omega), Int.emod_lt_of_pos _ hpos⟩
  have em : ∀ x : Int, x.tmod (n : Int) % (n : Int) = x % (n : Int) := fun x => by
    have := Int.tmod_add_mul_tdiv x (n : Int)
    have e : x.tmod (n : Int) = x - (n : Int) * x.tdiv (n : Int) := by omega
    rw [e, Int.sub_mul_emod_self_left]
  rw [Int.tmod_eq_emod_of_nonneg (by omega), Int.add_emod_right, em, Int.add_emod, em, ← Int.add_emod]
/-- The least rotation up to place k, and the first place of it. -/
def lrG (w : List Int) : Nat → List Int × Nat
  | 0 => (w, 0)
  | k + 1 => if cmpI (rotN w (k + 1)) (lrG w k).1 < 0 then (rotN w (k + 1), k + 1) else lrG w k
theorem lrG_yes {w : List Int} {k : Nat} (h : cmpI (rotN w (k + 1)) (lrG w k).1 < 0) : lrG w (k + 1) = (rotN w (k + 1), k + 1) := if_pos h
theorem lrG_no {w : List Int} {k : Nat} (h : ¬ cmpI (rotN w (k + 1)) (lrG w k).1 < 0) : lrG w (k + 1) = lrG w k := if_neg h
def lrL (w : List Int) : List Int × Nat := lrG w (w.length - 1)
theorem lrG_rot (w : List Int) (k : Nat) : (lrG w k).1 = rotN w (lrG w k).2 ∧ (lrG w k).2 ≤ k := by
  induction k with
  | zero => exact ⟨(rotN_zero w).symm, Nat.le_refl _⟩
  | succ k ih =>
    by_cases h : cmpI (rotN w (k + 1)) (lrG w k).1 < 0
    · rw [lrG_yes h]; exact ⟨rfl, Nat.le_refl _⟩
    · rw [lrG_no h]; exact ⟨ih.1, by omega⟩
theorem lrG_length (w : List Int) (k : Nat) : (lrG w k).1.length = w.length := by rw [(lrG_rot w k).1, rotN_length]
theorem lrG_in {w : List Int} (h : InR w) (k : Nat) : InR (lrG w k).1 := by rw [(lrG_rot w k).1]; exact rotN_in h _
/-- Are the first and the last letter inverse to each other? -/
def sc (x : List Int) : Bool := decide (1 < x.length ∧ x.getD 0 0 = ng (x.getD (x.length - 1) 0) ∧ x.getD 0 0 ≠ ng (x.getD 0 0))
def mid (x : List Int) : List Int := (x.drop 1).take (x.length - 2)
theorem mid_length (x : List Int) : (mid x).length = x.length - 2 := by unfold mid; rw [List.length_take, List.length_drop]; omega
def coreF : Nat → List Int → List Int → List Int × List Int
  | 0, x, p => (x, p)
  | f + 1, x, p => if sc x = true then coreF f (mid x) (p ++ [x.getD 0 0]) else (x, p)
theorem coreF_yes {f : Nat} {x p : List Int} (h : sc x = true) : coreF (f + 1) x p = coreF f (mid x) (p ++ [x.getD 0 0]) := if_pos h
theorem coreF_no {f : Nat} {x p : List Int} (h : sc x = false) : coreF f x p = (x, p) := by
  cases f with
  | zero => rfl
  | succ f => rw [coreF, h]; rfl
def coreL (w : List Int) : List Int × List Int := coreF (redL w).length (redL w) []
theorem coreF_length : ∀ (f : Nat) (x p : List Int), (coreF f x p).1.length ≤ x.length ∧ (coreF f x p).2.length ≤ p.length + x.length := by
  intro f
  induction f with
  | zero => intro x p; exact ⟨Nat.le_refl _, by show p.length ≤ _; omega⟩
  | succ f ih =>
    intro x p
    cases h : sc x with
    | true =>
      rw [coreF_yes h]
      have h1 := ih (mid x) (p ++ [x.getD 0 0])
      have h2 := mid_length x
      unfold sc at h
      rw [decide_eq_true_eq] at h
      rw [List.length_append, List.length_singleton] at h1
      omega
    | false => rw [coreF_no h]; exact ⟨Nat.le_refl _, by show p.length ≤ _; omega⟩
theorem coreL_length (w : List Int) : (coreL w).1.length ≤ w.length ∧ (coreL w).2.length ≤ w.length := by
  have h1 := coreF_length (redL w).length (redL w) []
  have h2 := redL_length w
  unfold coreL
  simp only [List.length_nil] at h1
  omega
theorem mid_in {x : List Int} (h : InR x) : InR (mid x) := fun y hy => h y (List.mem_of_mem_drop (List.mem_of_mem_take hy))
theorem coreF_in : ∀ (f : Nat) {x p : List Int}, InR x → InR p → InR (coreF f x p).1 ∧ InR (coreF f x p).2 := by
  intro f
  induction f with
  | zero => intro x p hx hp; exact ⟨hx, hp⟩
  | succ f ih =>
    intro x p hx hp
    cases h : sc x with
    | true =>
      rw [coreF_yes h]
      have hl : 0 < x.length := by unfold sc at h; rw [decide_eq_true_eq] at h; omega
      exact ih (mid_in hx) (hp.append (InR.cons (hx.getD 0 hl) InR.nil))
    | false => rw [coreF_no h]; exact ⟨hx, hp⟩
theorem coreL_in {w : List Int} (h : InR w) : InR (coreL w).1 ∧ InR (coreL w).2 := coreF_in _ (redL_in h) InR.nil
/-- The least divisor of the length, from d on, by which the word can be rotated. -/
def rootD (c : List Int) : Nat → Nat → Nat
  | 0, d => d
  | f + 1, d => if c.length % d = 0 ∧ rotN c d = c then d else rootD c f (d + 1)
theorem rootD_yes {c : List Int} {f d : Nat} (h : c.length % d = 0 ∧ rotN c d = c) : rootD c (f + 1) d = d := if_pos h
theorem rootD_no {c : List Int} {f d : Nat} (h : ¬ (c.length % d = 0 ∧ rotN c d = c)) : rootD c (f + 1) d = rootD c f (d + 1) := if_neg h
def rootOf (w : List Int) : Nat := rootD (coreL w).1 ((coreL w).1.length - 1) 1
/-- The root and the exponent. -/
def rootL (w : List Int) : List Int × Int :=
  if (coreL w).1 = [] then ([], 0)
  else (mulL (mulL (coreL w).2 ((coreL w).1.take (rootOf w))) (invL (coreL w).2), ((coreL w).1.length / rootOf w : Nat))
/-- The least k below f, from d on, by which x rotated is y. -/
def conjK (x y : List Int) : Nat → Nat → Option Nat
  | 0, _ => none
  | f + 1, d => if rotN x d = y then some d else conjK x y f (d + 1)
theorem conjK_yes {x y : List Int} {f d : Nat} (h : rotN x d = y) : conjK x y (f + 1) d = some d := if_pos h
theorem conjK_no {x y : List Int} {f d : Nat} (h : ¬ rotN x d = y) : conjK x y (f + 1) d = conjK x y f (d + 1) := if_neg h
def conjO (x p q : List Int) : Option Nat → List Int × Bool
  | some k => (mulL (mulL p (x.take k)) (invL q), true)
  | none => ([], false)
/-- The word that conjugates, and whether there is one. -/
def conjW (a b : List Int) : List Int × Bool :=
  if (coreL a).1.length ≠ (coreL b).1.length then ([], false)
  else if (coreL a).1.length = 0 then ([], true)
  else conjO (coreL a).1 (coreL a).2 (coreL b).2 (conjK (coreL a).1 (coreL b).1 (coreL a).1.length 0)
theorem conjW_length (a b : List Int) : (conjW a b).1.length ≤ 2 * a.length + b.length := by
  have h1 := coreL_length a
  have h2 := coreL_length b
  unfold conjW
  split
  · simp
  · split
    · simp
    · cases conjK (coreL a).1 (coreL b).1 (coreL a).1.length 0 with
      | none => simp [conjO]
      | some k =>
        have h3 := mulL_length (mulL (coreL a).2 ((coreL a).1.take k)) (invL (coreL b).2)
        have h4 := mulL_length (coreL a).2 ((coreL a).1.take k)
        rw [invL_length] at h3
        rw [List.length_take] at h4
        show (mulL _ _).length ≤ _
        omega
end Go.Proofs.Ytcjkgknmpgehbaa
