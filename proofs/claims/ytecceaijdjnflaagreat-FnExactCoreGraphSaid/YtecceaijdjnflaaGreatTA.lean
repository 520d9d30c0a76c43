/- Cores: mathematics (the model's own ways). -/
import Derived.Test.YtecceaijdjnflaaGreatQD
import Derived.Test.YtecceaijdjnflaaGreatGS10
namespace Go.Proofs.YtecceaijdjnflaaGreat
open Go.RowKit
set_option linter.unusedVariables false
set_option linter.unusedSimpArgs false

/-- The places after k numbers of an order: the number's place plus one. -/
def plN (s : Nat) (zs : List Int) : Nat → List Int
  | 0 => List.replicate s 0
  | k + 1 => (plN s zs k).set (zs.getD k 0).toNat ((k : Int) + 1)
theorem plN_length (s : Nat) (zs : List Int) : ∀ k, (plN s zs k).length = s := by
  intro k
  induction k with
  | zero => simp [plN]
  | succ k ih => simp [plN, ih]
theorem plN_in (s : Nat) (zs : List Int) : ∀ k, ∀ i, 0 ≤ (plN s zs k).getD i 0 ∧ (plN s zs k).getD i 0 ≤ k := by
  intro k
  induction k with
  | zero =>
    intro i
    unfold plN
    rw [List.getD_eq_getElem?_getD, List.getElem?_replicate]
    split <;> simp
  | succ k ih =>
    intro i
    have := ih i
    unfold plN
    rw [List.getD_eq_getElem?_getD] at this ⊢
    rw [List.getElem?_set]
    split
    · split
      · simp; omega
      · simp; omega
    · omega
/-- The k-th number of an order is a vertex that was not there before. -/
def plB (s : Nat) (zs : List Int) (k : Nat) : Bool := decide (0 ≤ zs.getD k 0 ∧ zs.getD k 0 < (s : Int)) && decide ((plN s zs k).getD (zs.getD k 0).toNat 0 = 0)
def plAll (s : Nat) (zs : List Int) : Nat → Bool
  | 0 => true
  | k + 1 => plAll s zs k && plB s zs k
theorem plAll_iff (s : Nat) (zs : List Int) : ∀ n, plAll s zs n = true ↔ ∀ i, i < n → plB s zs i = true := by
  intro n
  induction n with
  | zero => simp [plAll]
  | succ n ih =>
    unfold plAll
    rw [Bool.and_eq_true, ih]
    constructor
    · rintro ⟨h1, h2⟩ i hi
      by_cases e : i = n
      · subst e; exact h2
      · exact h1 i (by omega)
    · intro h
      exact ⟨fun i hi => h i (by omega), h n (by omega)⟩
theorem plAll_not {s : Nat} {zs : List Int} {i n : Nat} (hi : i < n) (h : plB s zs i = false) : plAll s zs n = false := by
  cases e : plAll s zs n with
  | false => rfl
  | true => rw [(plAll_iff s zs n).1 e i hi] at h; cases h
def okN (r s : Int) (es : List Ed) (zs : List Int) : Bool := isGr r s es && decide (zs.length ≠ 0 ∧ (zs.length : Int) ≤ s) && plAll s.toNat zs zs.length
/-- An edge stays. -/
def inP (pl : List Int) (e : Ed) : Bool := decide (0 < pl.getD e.1.toNat 0 ∧ 0 < pl.getD e.2.2.toNat 0)
def numE (pl : List Int) (e : Ed) : Ed := (pl.getD e.1.toNat 0 - 1, e.2.1, pl.getD e.2.2.toNat 0 - 1)
def rnN (pl : List Int) (es : List Ed) : Nat → List Ed
  | 0 => []
  | k + 1 => if inP pl (es.getD k e0) = true then putE (numE pl (es.getD k e0)) (rnN pl es k) else rnN pl es k
theorem rnN_length (pl : List Int) (es : List Ed) : ∀ k, (rnN pl es k).length ≤ k := by
  intro k
  induction k with
  | zero => simp [rnN]
  | succ k ih =>
    unfold rnN
    split
    · have := putE_length (numE pl (es.getD k e0)) (rnN pl es k); omega
    · omega
def rnS (r s : Int) (es : List Ed) (zs : List Int) : Int := if okN r s es zs = true then (zs.length : Int) else s
def rnE (r s : Int) (es : List Ed) (zs : List Int) : List Ed := if okN r s es zs = true then rnN (plN s.toNat zs zs.length) es es.length else es
theorem rnE_length (r s : Int) (es : List Ed) (zs : List Int) : (rnE r s es zs).length ≤ es.length := by
  unfold rnE
  split
  · exact rnN_length _ _ _
  · exact Nat.le_refl _

/-- No loop needs the vertex. -/
def leafB (r s : Int) (es : List Ed) (v : Int) : Bool := decide (degE v es < 2) || !decide (v ∈ reachG r s es 0)
def lfN (r s : Int) (es : List Ed) (v : Int) : Nat → Int
  | 0 => -1
  | g + 1 => if leafB r s es v = true then v else lfN r s es (v + 1) g
/-- The first vertex other than the base that no loop needs. -/
def lf (r s : Int) (es : List Ed) : Int := lfN r s es 1 (s - 1).toNat
theorem lfN_or (r s : Int) (es : List Ed) : ∀ g v, lfN r s es v g = -1 ∨ (v ≤ lfN r s es v g ∧ lfN r s es v g < v + g) := by
  intro g
  induction g with
  | zero => intro v; exact .inl rfl
  | succ g ih =>
    intro v
    unfold lfN
    split
    · right; omega
    · rcases ih (v + 1) with h | h
      · exact .inl h
      · right; omega
theorem lf_or (r s : Int) (es : List Ed) : lf r s es = -1 ∨ (1 ≤ lf r s es ∧ lf r s es < s) := by
  rcases lfN_or r s es (s - 1).toNat 1 with h | h
  · exact .inl h
  · right; unfold lf; omega

/-- The states of trimming. -/
structure TrSt where
  s : Int
  es : List Ed
  l : List Int
def upN (n : Nat) : List Int := (List.range n).map Int.ofNat
/-- The numbers below k other than v. -/
def othN (v : Int) : Nat → List Int
  | 0 => []
  | k + 1 => if (k : Int) = v then othN v k else othN v k ++ [(k : Int)]
def resN (v : Int) (l : List Int) : Nat → List Int
  | 0 => []
  | k + 1 => if (k : Int) = v then resN v l k else resN v l k ++ [l.getD k 0]
theorem othN_length (v : Int) : ∀ k : Nat, (othN v k).length ≤ k := by
  intro k
  induction k with
  | zero => simp [othN]
  | succ k ih =>
    unfold othN
    split
    · omega
    · rw [List.length_append, List.length_singleton]; omega
theorem resN_length (v : Int) (l : List Int) : ∀ k : Nat, (resN v l k).length = (othN v k).length := by
  intro k
  induction k with
  | zero => simp [othN, resN]
  | succ k ih =>
    unfold othN resN
    by_cases e : (k : Int) = v
    · rw [if_pos e, if_pos e, ih]
    · rw [if_neg e, if_neg e, List.length_append, List.length_append, ih]; rfl
def trS1 (r : Int) (x : TrSt) : TrSt :=
  if lf r x.s x.es < 0 then x else ⟨rnS r x.s x.es (othN (lf r x.s x.es) x.s.toNat), rnE r x.s x.es (othN (lf r x.s x.es) x.s.toNat), resN (lf r x.s x.es) x.l x.s.toNat⟩
def trN (r s : Int) (es : List Ed) : Nat → TrSt
  | 0 => ⟨s, es, upN s.toNat⟩
  | i + 1 => trS1 r (trN r s es i)
theorem trN_stop (r s : Int) (es : List Ed) {i : Nat} (h : lf r (trN r s es i).s (trN r s es i).es < 0) : ∀ j, trN r s es (i + j) = trN r s es i := by
  intro j
  induction j with
  | zero => rfl
  | succ j ih =>
    show trS1 r (trN r s es (i + j)) = _
    rw [ih]
    unfold trS1
    rw [if_pos h]
theorem trN_len (r s : Int) (es : List Ed) : ∀ i, (trN r s es i).es.length ≤ es.length := by
  intro i
  induction i with
  | zero => simp [trN]
  | succ i ih =>
    unfold trN trS1
    split
    · exact ih
    · exact Nat.le_trans (rnE_length _ _ _ _) ih
theorem othN_ne {v : Int} {k : Nat} (h : 0 ≤ v ∧ v < (k : Int)) : (othN v k).length + 1 = k := by
  induction k with
  | zero => omega
  | succ k ih =>
    unfold othN
    by_cases e : (k : Int) = v
    · rw [if_pos e]
      have : ∀ m : Nat, (m : Int) ≤ v → (othN v m).length = m := by
        intro m
        induction m with
        | zero => intro _; rfl
        | succ m im =>
          intro hm
          unfold othN
          rw [if_neg (by omega), List.length_append, im (by omega)]
          rfl
      rw [this k (by omega)]
    · rw [if_neg e, List.length_append, List.length_singleton, ih (by omega)]
def tmS (r s : Int) (es : List Ed) : Int := if isGr r s es = true then (trN r s es 40).s else s
def tmE (r s : Int) (es : List Ed) : List Ed := if isGr r s es = true then (trN r s es 40).es else es
def tmL (r s : Int) (es : List Ed) : List Int := if isGr r s es = true then (trN r s es 40).l else []

/-- The canonical order: one letter, a vertex' letters, the search. -/
def coS (es : List Ed) (u : Int) (out : List Int) (l : Int) : List Int := if 0 ≤ nxV es u l ∧ nxV es u l ∉ out then out ++ [nxV es u l] else out
def coR (es : List Ed) (u : Int) (ls : List Int) (out : List Int) (k : Nat) : List Int := (ls.take k).foldl (coS es u) out
theorem coR_next {es : List Ed} {u : Int} {ls out : List Int} {k : Nat} (h : k < ls.length) : coR es u ls out (k + 1) = coS es u (coR es u ls out k) (ls.getD k 0) := by
  unfold coR
  rw [List.take_add_one, List.getElem?_eq_getElem h, List.getD_eq_getElem?_getD, List.getElem?_eq_getElem h, List.foldl_append]
  rfl
def coN (es : List Ed) (ls : List Int) : Nat → List Int
  | 0 => [0]
  | i + 1 => if i < (coN es ls i).length then coR es ((coN es ls i).getD i 0) ls (coN es ls i) ls.length else coN es ls i
theorem coN_stop {es : List Ed} {ls : List Int} {i : Nat} (h : (coN es ls i).length ≤ i) : ∀ j, coN es ls (i + j) = coN es ls i := by
  intro j
  induction j with
  | zero => rfl
  | succ j ih =>
    show (if i + j < (coN es ls (i + j)).length then coR es ((coN es ls (i + j)).getD (i + j) 0) ls (coN es ls (i + j)) ls.length else coN es ls (i + j)) = _
    rw [ih, if_neg (by omega)]
def CoIn (s : Nat) (out : List Int) : Prop := out.Nodup ∧ ∀ y ∈ out, 0 ≤ y ∧ y < (s : Int)
theorem CoIn.len : ∀ {s : Nat} {out : List Int}, CoIn s out → out.length ≤ s := by
  intro s
  induction s with
  | zero =>
    intro out h
    cases out with
    | nil => simp
    | cons y ys => have := h.2 y List.mem_cons_self; omega
  | succ s ih =>
    intro out h
    by_cases hm : (s : Int) ∈ out
    · have h2 : CoIn s (out.erase (s : Int)) := by
        refine ⟨h.1.erase _, fun y hy => ?_⟩
        have h3 := (h.1.mem_erase_iff).1 hy
        have h4 := h.2 y h3.2
        have h5 := h3.1
        omega
      have h6 := ih h2
      rw [List.length_erase_of_mem hm] at h6
      omega
    · have h2 : CoIn s out := ⟨h.1, fun y hy => by
        have h4 := h.2 y hy
        have h5 : y ≠ (s : Int) := fun e => hm (e ▸ hy)
        omega⟩
      have := ih h2
      omega
theorem nxV_in {s : Nat} {es : List Ed} (hE : EndsIn s es) {v l : Int} (h : 0 ≤ nxV es v l) : nxV es v l < (s : Int) := by
  unfold nxV at h ⊢
  cases e : stepsE v l es with
  | nil => rw [e] at h; simp at h
  | cons y ys =>
    simp only [List.headD_cons]
    have hy : y ∈ stepsE v l es := by rw [e]; exact List.mem_cons_self
    obtain ⟨x, hx, hl⟩ := mem_stepsE.1 hy
    have hx2 := hE x hx
    unfold Leads at hl
    omega
theorem CoIn.step {s : Nat} {es : List Ed} (hE : EndsIn s es) {u l : Int} {out : List Int} (h : CoIn s out) : CoIn s (coS es u out l) := by
  unfold coS
  split
  case isFalse => exact h
  case isTrue hc =>
    refine ⟨?_, ?_⟩
    · rw [List.nodup_append]
      exact ⟨h.1, by simp, fun a ha b hb => by rw [List.mem_singleton] at hb; subst hb; intro e; subst e; exact hc.2 ha⟩
    · intro y hy
      rcases List.mem_append.1 hy with hy | hy
      · exact h.2 y hy
      · rw [List.mem_singleton] at hy
        subst hy
        exact ⟨hc.1, nxV_in hE hc.1⟩
theorem CoIn.row {s : Nat} {es : List Ed} (hE : EndsIn s es) {u : Int} (ls : List Int) {out : List Int} (h : CoIn s out) (k : Nat) : CoIn s (coR es u ls out k) := by
  unfold coR
  induction ls.take k generalizing out with
  | nil => exact h
  | cons l t ih => exact ih (h.step hE)
theorem CoIn.all {s : Nat} {es : List Ed} (hE : EndsIn s es) (hs : 0 < s) (ls : List Int) : ∀ i, CoIn s (coN es ls i) := by
  intro i
  induction i with
  | zero => exact ⟨by simp [coN], fun y hy => by simp [coN] at hy; omega⟩
  | succ i ih =>
    unfold coN
    split
    · exact ih.row hE ls _
    · exact ih
def coL (r s : Int) (es : List Ed) (ls : List Int) : List Int := if isFo r s es = true then coN es ls 40 else []
end Go.Proofs.YtecceaijdjnflaaGreat
