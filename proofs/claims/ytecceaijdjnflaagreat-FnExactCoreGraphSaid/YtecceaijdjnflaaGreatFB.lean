/- The search by breadth in a folded graph, plain mathematics: what is found, in order, each with a word that leads there. -/
import Derived.Test.YtecceaijdjnflaaGreatQD
import Derived.Test.YtecceaijdjnflaaGreatLET
namespace Go.Proofs.YtecceaijdjnflaaGreat
open Go.RowKit
set_option linter.unusedVariables false
set_option linter.unusedSimpArgs false

/-- A vertex that is found, the letter, the place before; and the word that leads there. -/
abbrev Ar := Ed × List Int
def d0 : Ar := (e0, [])
def vts (S : List Ar) : List Int := S.map (·.1.1)
def arr1 (es : List Ed) (i : Nat) (S : List Ar) (l : Int) : List Ar :=
  if 0 ≤ nxV es (S.getD i d0).1.1 l ∧ nxV es (S.getD i d0).1.1 l ∉ vts S then S ++ [((nxV es (S.getD i d0).1.1 l, l, (i : Int)), (S.getD i d0).2 ++ [l])] else S
def arrN (es : List Ed) (ls : List Int) (u : Int) : Nat → List Ar
  | 0 => [((u, 0, 0), [])]
  | k + 1 => if k < (arrN es ls u k).length then ls.foldl (arr1 es k) (arrN es ls u k) else arrN es ls u k
theorem getD_left {S T : List Ar} {j : Nat} (h : j < S.length) : (S ++ T).getD j d0 = S.getD j d0 := by
  rw [List.getD_eq_getElem?_getD, List.getElem?_append_left h, ← List.getD_eq_getElem?_getD]
theorem getD_last (S : List Ar) (x : Ar) : (S ++ [x]).getD S.length d0 = x := by
  rw [List.getD_eq_getElem?_getD, List.getElem?_append_right (Nat.le_refl _)]
  simp
structure GoodA (s : Nat) (u : Int) (S : List Ar) : Prop where
  pos : 0 < S.length
  zero : S.getD 0 d0 = ((u, 0, 0), [])
  back : ∀ j, 0 < j → j < S.length → ∃ b : Nat, b < j ∧ (S.getD j d0).1.2.2 = (b : Int) ∧ (S.getD j d0).2 = (S.getD b d0).2 ++ [(S.getD j d0).1.2.1]
  vert : ∀ j, j < S.length → 0 ≤ (S.getD j d0).1.1 ∧ (S.getD j d0).1.1 < (s : Int)
  cnt : S.length ≤ vxC s (vts S)
  wlen : ∀ j, j < S.length → (S.getD j d0).2.length ≤ j
  lets : ∀ j, j < S.length → -3 ≤ (S.getD j d0).1.2.1 ∧ (S.getD j d0).1.2.1 ≤ 3
theorem GoodA.length {s : Nat} {u : Int} {S : List Ar} (h : GoodA s u S) : S.length ≤ s := Nat.le_trans h.cnt (vxC_le s _)
theorem good_start {s : Nat} {u : Int} (hu : 0 ≤ u ∧ u < (s : Int)) : GoodA s u [((u, 0, 0), [])] where
  pos := by simp
  zero := rfl
  back := fun j h0 h1 => by simp at h1; omega
  vert := fun j h => by
    have : j = 0 := by simpa using h
    subst this; exact hu
  cnt := by
    refine List.one_le_countP_iff.2 ⟨u.toNat, List.mem_range.2 (by omega), ?_⟩
    exact decide_eq_true (by rw [show ((u.toNat : Nat) : Int) = u by omega]; simp [vts])
  wlen := fun j h => by
    have : j = 0 := by simpa using h
    subst this; simp
  lets := fun j h => by
    have : j = 0 := by simpa using h
    subst this; simp
theorem good_arr1 {s : Nat} {u : Int} {es : List Ed} {S : List Ar} {i : Nat} {l : Int} (h : GoodA s u S) (hi : i < S.length) (hl : -3 ≤ l ∧ l ≤ 3) (hN : ∀ v, 0 ≤ nxV es v l → nxV es v l < (s : Int)) : GoodA s u (arr1 es i S l) := by
  unfold arr1
  split
  case isFalse => exact h
  case isTrue hc =>
    obtain ⟨y, hy⟩ : ∃ y, y = nxV es (S.getD i d0).1.1 l := ⟨_, rfl⟩
    have hyN := hN (S.getD i d0).1.1 hc.1
    rw [← hy] at hc hyN ⊢
    obtain ⟨X, hX⟩ : ∃ X : Ar, X = ((y, l, (i : Int)), (S.getD i d0).2 ++ [l]) := ⟨_, rfl⟩
    rw [← hX]
    have hcase : ∀ j, j < (S ++ [X]).length → j < S.length ∨ j = S.length := fun j hj => by simp at hj; omega
    constructor
    · simp
    · rw [getD_left h.pos]; exact h.zero
    · intro j h0 hj
      rcases hcase j hj with hj | rfl
      · obtain ⟨b, hb, h1, h2⟩ := h.back j h0 hj
        refine ⟨b, hb, ?_, ?_⟩
        · rw [getD_left hj]; exact h1
        · rw [getD_left hj, getD_left (by omega)]; exact h2
      · refine ⟨i, hi, ?_, ?_⟩
        · rw [getD_last, hX]
        · rw [getD_last, getD_left hi, hX]
    · intro j hj
      rcases hcase j hj with hj | rfl
      · rw [getD_left hj]; exact h.vert j hj
      · rw [getD_last, hX]; exact ⟨hc.1, hyN⟩
    · have hm : vxC s (vts S) + 1 ≤ vxC s (vts (S ++ [X])) := by
        refine cnt_lt (fun x hx hp => decide_eq_true ?_) ⟨y.toNat, List.mem_range.2 (by omega), ?_, ?_⟩
        · have := of_decide_eq_true hp
          unfold vts at this ⊢
          rw [List.map_append, List.mem_append]; exact .inl this
        · refine decide_eq_true ?_
          rw [show ((y.toNat : Nat) : Int) = y by omega]
          unfold vts
          rw [List.map_append, List.mem_append, hX]; exact .inr (by simp)
        · rw [show ((y.toNat : Nat) : Int) = y by omega]; exact decide_eq_false hc.2
      have := h.cnt
      simp only [List.length_append, List.length_cons, List.length_nil]
      omega
    · intro j hj
      rcases hcase j hj with hj | rfl
      · rw [getD_left hj]; exact h.wlen j hj
      · rw [getD_last, hX]
        have := h.wlen i hi
        show ((S.getD i d0).2 ++ [l]).length ≤ S.length
        rw [List.length_append, List.length_singleton]
        omega
    · intro j hj
      rcases hcase j hj with hj | rfl
      · rw [getD_left hj]; exact h.lets j hj
      · rw [getD_last, hX]; exact hl
theorem arr1_le (es : List Ed) (i : Nat) (S : List Ar) (l : Int) : S.length ≤ (arr1 es i S l).length := by
  unfold arr1; split
  · simp
  · exact Nat.le_refl _
theorem good_foldl {s : Nat} {u : Int} {es : List Ed} {i : Nat} : ∀ (ls : List Int) {S : List Ar}, GoodA s u S → i < S.length → (∀ l ∈ ls, -3 ≤ l ∧ l ≤ 3) → (∀ v l, -3 ≤ l ∧ l ≤ 3 → 0 ≤ nxV es v l → nxV es v l < (s : Int)) → GoodA s u (ls.foldl (arr1 es i) S) := by
  intro ls
  induction ls with
  | nil => intro S h _ _ _; exact h
  | cons l ls ih =>
    intro S h hi hl hN
    exact ih (good_arr1 h hi (hl l List.mem_cons_self) (fun v => hN v l (hl l List.mem_cons_self))) (Nat.lt_of_lt_of_le hi (arr1_le es i S l)) (fun l' h' => hl l' (List.mem_cons_of_mem _ h')) hN
theorem good_arrN {s : Nat} {u : Int} {es : List Ed} {ls : List Int} (hu : 0 ≤ u ∧ u < (s : Int)) (hl : ∀ l ∈ ls, -3 ≤ l ∧ l ≤ 3) (hN : ∀ v l, -3 ≤ l ∧ l ≤ 3 → 0 ≤ nxV es v l → nxV es v l < (s : Int)) : ∀ k, GoodA s u (arrN es ls u k) := by
  intro k
  induction k with
  | zero => exact good_start hu
  | succ k ih =>
    rw [arrN]
    split
    · rename_i h; exact good_foldl ls ih h hl hN
    · exact ih
theorem arrN_stay {es : List Ed} {ls : List Int} {u : Int} {k : Nat} (h : ¬ k < (arrN es ls u k).length) : ∀ m, arrN es ls u (k + m) = arrN es ls u k := by
  intro m
  induction m with
  | zero => rfl
  | succ m ih =>
    show arrN es ls u (k + m + 1) = _
    rw [arrN, ih, if_neg (by omega)]
theorem arrN_end {es : List Ed} {ls : List Int} {u : Int} {k : Nat} (h : ¬ k < (arrN es ls u k).length) (hk : k ≤ 41) : arrN es ls u 41 = arrN es ls u k := by
  have := arrN_stay h (41 - k)
  rwa [show k + (41 - k) = 41 by omega] at this
theorem nx_lt {r s : Int} {es : List Ed} (h : isFo r s es = true) : ∀ v l : Int, -3 ≤ l ∧ l ≤ 3 → 0 ≤ nxV es v l → nxV es v l < ((s.toNat : Nat) : Int) := by
  intro v l hl h0
  unfold isFo at h
  rw [Bool.and_eq_true] at h
  have hlim := isGr_lim h.1
  rcases nx_cases h.1 h.2 (v := v) (l := l) (by omega) with h1 | h1
  · omega
  · omega
/-- The first place at which a vertex is found. -/
def placeA (S : List Ar) (v : Int) : Nat := S.findIdx (fun x => x.1.1 == v)
theorem placeA_lt {S : List Ar} {v : Int} (h : v ∈ vts S) : placeA S v < S.length ∧ (S.getD (placeA S v) d0).1.1 = v := by
  unfold vts at h
  rw [List.mem_map] at h
  obtain ⟨x, hx, hv⟩ := h
  have hlt : placeA S v < S.length := List.findIdx_lt_length_of_exists ⟨x, hx, by rw [beq_iff_eq]; exact hv⟩
  refine ⟨hlt, ?_⟩
  have := List.findIdx_getElem (w := hlt)
  rw [beq_iff_eq] at this
  rw [List.getD_eq_getElem?_getD, List.getElem?_eq_getElem hlt]
  exact this
theorem placeA_first {S : List Ar} {v : Int} {j : Nat} (h : j < placeA S v) (hj : j < S.length) : (S.getD j d0).1.1 ≠ v := by
  have := List.not_of_lt_findIdx h
  rw [List.getD_eq_getElem?_getD, List.getElem?_eq_getElem hj]
  intro he
  have h2 : (S[j].1.1 == v) = true := by rw [beq_iff_eq]; exact he
  rw [this] at h2
  cases h2
theorem placeA_is {S : List Ar} {v : Int} {j : Nat} (hj : j < S.length) (hv : (S.getD j d0).1.1 = v) (hf : ∀ i, i < j → (S.getD i d0).1.1 ≠ v) : v ∈ vts S ∧ placeA S v = j := by
  have hm : v ∈ vts S := by
    unfold vts
    rw [List.mem_map]
    refine ⟨S[j], List.getElem_mem hj, ?_⟩
    rw [List.getD_eq_getElem?_getD, List.getElem?_eq_getElem hj] at hv
    exact hv
  refine ⟨hm, ?_⟩
  have h1 := placeA_lt hm
  rcases Nat.lt_trichotomy (placeA S v) j with h | h | h
  · exact absurd h1.2 (hf _ h)
  · exact h
  · exact absurd hv (placeA_first h hj)
theorem mem_vts {S : List Ar} {v : Int} : v ∈ vts S ↔ ∃ j, j < S.length ∧ (S.getD j d0).1.1 = v := by
  constructor
  · intro h; exact ⟨_, (placeA_lt h).1, (placeA_lt h).2⟩
  · rintro ⟨j, hj, hv⟩
    unfold vts
    rw [List.mem_map]
    refine ⟨S[j], List.getElem_mem hj, ?_⟩
    rw [List.getD_eq_getElem?_getD, List.getElem?_eq_getElem hj] at hv
    exact hv
/-- What PathWord answers. -/
def okPath (r s : Int) (es : List Ed) (u v : Int) : Bool := isFo r s es && isVx s u && isVx s v
def foundA (r : Int) (es : List Ed) (u : Int) : List Ar := arrN es (letsN r.toNat) u 41
def pathT (r s : Int) (es : List Ed) (u v : Int) : Bool := okPath r s es u v && decide (v ∈ vts (foundA r es u))
def pathA (r s : Int) (es : List Ed) (u v : Int) : List Int := if pathT r s es u v then ((foundA r es u).getD (placeA (foundA r es u) v) d0).2 else []
theorem foundA_good {r s : Int} {es : List Ed} {u : Int} (h : isFo r s es = true) (hu : 0 ≤ u ∧ u < s) : GoodA s.toNat u (foundA r es u) := by
  have hg := h
  unfold isFo at hg
  rw [Bool.and_eq_true] at hg
  have hlim := isGr_lim hg.1
  exact good_arrN (by omega) (fun l hl => by have := letsN_in _ l hl; omega) (nx_lt h) 41
theorem pathA_length (r s : Int) (es : List Ed) (u v : Int) : (pathA r s es u v).length ≤ 40 := by
  unfold pathA
  split
  · rename_i h
    unfold pathT okPath at h
    simp only [Bool.and_eq_true, decide_eq_true_eq] at h
    obtain ⟨⟨⟨h1, h2⟩, h3⟩, h4⟩ := h
    have hv := of_decide_eq_true h2
    have hG := foundA_good h1 hv
    have hp := placeA_lt h4
    have hl := hG.wlen _ hp.1
    have hg := h1
    unfold isFo at hg
    rw [Bool.and_eq_true] at hg
    have hlim := isGr_lim hg.1
    have := hG.length
    omega
  · simp
end Go.Proofs.YtecceaijdjnflaaGreat
