/- Folding, plain mathematics: the possible folds in order, merging, folding on. -/
import Derived.Test.YtdeofaimgldklaaHFE
import Derived.Test.YtdeofaimgldklaaGS10
namespace Go.Proofs.Ytdeofaimgldklaa
open Go.RowKit
set_option linter.unusedVariables false
set_option linter.unusedSimpArgs false

/-- The folds of one pair of edges. -/
def pairF (a b : Ed) : List tupF :=
  (if a.2.1 = b.2.1 ∧ a.1 = b.1 then [(min a.2.2 b.2.2, max a.2.2 b.2.2)] else []) ++ (if a.2.1 = b.2.1 ∧ a.2.2 = b.2.2 then [(min a.1 b.1, max a.1 b.1)] else [])
/-- The folds of edge i with the d edges behind it. -/
def rowF (es : List Ed) (i : Nat) : Nat → List tupF
  | 0 => []
  | d + 1 => rowF es i d ++ pairF (es.getD i e0) (es.getD (i + 1 + d) e0)
/-- Those of the first n edges with all behind them. -/
def allF (es : List Ed) : Nat → List tupF
  | 0 => []
  | i + 1 => allF es i ++ rowF es i (es.length - (i + 1))
def foldsF (es : List Ed) : List tupF := allF es es.length
theorem pairF_length (a b : Ed) : (pairF a b).length ≤ 2 := by unfold pairF; split <;> split <;> simp
theorem rowF_length (es : List Ed) (i : Nat) : ∀ d, (rowF es i d).length ≤ 2 * d := by
  intro d
  induction d with
  | zero => simp [rowF]
  | succ d ih => rw [rowF, List.length_append]; have := pairF_length (es.getD i e0) (es.getD (i + 1 + d) e0); omega
theorem allF_length (es : List Ed) : ∀ n, n ≤ es.length → (allF es n).length ≤ 2 * (n * es.length) := by
  intro n
  induction n with
  | zero => intro _; simp [allF]
  | succ n ih =>
    intro h
    rw [allF, List.length_append]
    have h1 := ih (by omega)
    have h2 := rowF_length es n (es.length - (n + 1))
    have h3 : (n + 1) * es.length = n * es.length + es.length := Nat.succ_mul _ _
    have h4 : 2 * ((n + 1) * es.length) = 2 * (n * es.length) + 2 * es.length := by rw [h3, Nat.mul_add]
    omega
theorem foldsF_length (es : List Ed) : (foldsF es).length ≤ 2 * (es.length * es.length) := allF_length es es.length (Nat.le_refl _)
/-- The number of a vertex behind a fold. -/
def newV (k d v : Int) : Int := if (if v = d then k else v) > d then (if v = d then k else v) - 1 else (if v = d then k else v)
def newE (k d : Int) (e : Ed) : Ed := (newV k d e.1, e.2.1, newV k d e.2.2)
def mergeN (k d : Int) (es : List Ed) : Nat → List Ed
  | 0 => []
  | i + 1 => putE (newE k d (es.getD i e0)) (mergeN k d es i)
theorem mergeN_length (k d : Int) (es : List Ed) : ∀ i, (mergeN k d es i).length ≤ i := by
  intro i
  induction i with
  | zero => simp [mergeN]
  | succ i ih => rw [mergeN]; have := putE_length (newE k d (es.getD i e0)) (mergeN k d es i); omega
def mergeE (k d : Int) (es : List Ed) : List Ed := mergeN k d es es.length
theorem mergeE_length (k d : Int) (es : List Ed) : (mergeE k d es).length ≤ es.length := mergeN_length k d es es.length
/-- Can the two be merged? -/
def okM (r s : Int) (es : List Ed) (f : tupF) : Bool := isGr r s es && decide (0 ≤ f.1 ∧ f.1 < f.2 ∧ f.2 < s)
def mrS (r s : Int) (es : List Ed) (f : tupF) : Int := if okM r s es f = true then s - 1 else s
def mrE (r s : Int) (es : List Ed) (f : tupF) : List Ed := if okM r s es f = true then mergeE f.1 f.2 es else es
theorem mrE_length (r s : Int) (es : List Ed) (f : tupF) : (mrE r s es f).length ≤ es.length := by
  unfold mrE
  split
  · exact mergeE_length _ _ _
  · exact Nat.le_refl _
/-- The first fold. -/
def ffB (r s : Int) (es : List Ed) : Bool := isGr r s es && decide ((foldsF es).length ≠ 0)
def ffF (r s : Int) (es : List Ed) : tupF := if ffB r s es = true then (foldsF es).getD 0 zeroF else zeroF
def onS (r s : Int) (es : List Ed) : Int := if ffB r s es = true then mrS r s es (ffF r s es) else s
def onE (r s : Int) (es : List Ed) : List Ed := if ffB r s es = true then mrE r s es (ffF r s es) else es
theorem onE_length (r s : Int) (es : List Ed) : (onE r s es).length ≤ es.length := by
  unfold onE
  split
  · exact mrE_length _ _ _ _
  · exact Nat.le_refl _
/-- A graph on its way, with the folds that it has had. -/
structure FoldSt where
  s : Int
  es : List Ed
  l : List tupF
def stN (r s : Int) (es : List Ed) : Nat → FoldSt
  | 0 => ⟨s, es, []⟩
  | i + 1 => if ffB r (stN r s es i).s (stN r s es i).es = true then ⟨onS r (stN r s es i).s (stN r s es i).es, onE r (stN r s es i).s (stN r s es i).es, (stN r s es i).l ++ [ffF r (stN r s es i).s (stN r s es i).es]⟩ else stN r s es i
theorem stN_len (r s : Int) (es : List Ed) : ∀ i, (stN r s es i).es.length ≤ es.length ∧ (stN r s es i).l.length ≤ i := by
  intro i
  induction i with
  | zero => exact ⟨Nat.le_refl _, Nat.le_refl _⟩
  | succ i ih =>
    rw [stN]
    split
    · have := onE_length r (stN r s es i).s (stN r s es i).es
      simp only [List.length_append, List.length_singleton]
      omega
    · omega
theorem stN_stop (r s : Int) (es : List Ed) {i : Nat} (h : ffB r (stN r s es i).s (stN r s es i).es = false) : ∀ j, stN r s es (i + j) = stN r s es i := by
  intro j
  induction j with
  | zero => rfl
  | succ j ih => rw [← Nat.add_assoc, stN, ih, h]; simp
/-- What FoldAll answers. -/
def faS (r s : Int) (es : List Ed) : Int := (stN r s es 40).s
def faE (r s : Int) (es : List Ed) : List Ed := (stN r s es 40).es
def faL (r s : Int) (es : List Ed) : List tupF := (stN r s es 40).l
/-- In the order of the choices: which fold is taken. -/
def chN (cs : List Int) (i n : Nat) : Nat := if i < cs.length ∧ 0 < cs.getD i 0 then (cs.getD i 0 % (n : Int)).toNat else 0
def orN (r s : Int) (es : List Ed) (cs : List Int) : Nat → FoldSt
  | 0 => ⟨s, es, []⟩
  | i + 1 => if (foldsF (orN r s es cs i).es).length = 0 then orN r s es cs i else
      ⟨mrS r (orN r s es cs i).s (orN r s es cs i).es ((foldsF (orN r s es cs i).es).getD (chN cs i (foldsF (orN r s es cs i).es).length) zeroF),
       mrE r (orN r s es cs i).s (orN r s es cs i).es ((foldsF (orN r s es cs i).es).getD (chN cs i (foldsF (orN r s es cs i).es).length) zeroF),
       (orN r s es cs i).l ++ [(foldsF (orN r s es cs i).es).getD (chN cs i (foldsF (orN r s es cs i).es).length) zeroF]⟩
theorem orN_len (r s : Int) (es : List Ed) (cs : List Int) : ∀ i, (orN r s es cs i).es.length ≤ es.length ∧ (orN r s es cs i).l.length ≤ i := by
  intro i
  induction i with
  | zero => exact ⟨Nat.le_refl _, Nat.le_refl _⟩
  | succ i ih =>
    rw [orN]
    split
    · omega
    · have := mrE_length r (orN r s es cs i).s (orN r s es cs i).es ((foldsF (orN r s es cs i).es).getD (chN cs i (foldsF (orN r s es cs i).es).length) zeroF)
      simp only [List.length_append, List.length_singleton]
      omega
theorem orN_stop (r s : Int) (es : List Ed) (cs : List Int) {i : Nat} (h : (foldsF (orN r s es cs i).es).length = 0) : ∀ j, orN r s es cs (i + j) = orN r s es cs i := by
  intro j
  induction j with
  | zero => rfl
  | succ j ih => rw [← Nat.add_assoc, orN, ih, if_pos h]
def foS (r s : Int) (es : List Ed) (cs : List Int) : Int := if isGr r s es = true then (orN r s es cs 40).s else s
def foE (r s : Int) (es : List Ed) (cs : List Int) : List Ed := if isGr r s es = true then (orN r s es cs 40).es else es
def foL (r s : Int) (es : List Ed) (cs : List Int) : List tupF := if isGr r s es = true then (orN r s es cs 40).l else []
/-- Folds replayed: is each of the first i possible at its moment, and what is left. -/
def reSt (r s : Int) (es : List Ed) (l : List tupF) : Nat → Int × List Ed
  | 0 => (s, es)
  | i + 1 => (mrS r (reSt r s es l i).1 (reSt r s es l i).2 (l.getD i zeroF), mrE r (reSt r s es l i).1 (reSt r s es l i).2 (l.getD i zeroF))
def reOk (r s : Int) (es : List Ed) (l : List tupF) (i : Nat) : Bool := okM r (reSt r s es l i).1 (reSt r s es l i).2 (l.getD i zeroF) && decide (l.getD i zeroF ∈ foldsF (reSt r s es l i).2)
def reAll (r s : Int) (es : List Ed) (l : List tupF) : Nat → Bool
  | 0 => true
  | i + 1 => reAll r s es l i && reOk r s es l i
def reB (r s : Int) (es : List Ed) (l : List tupF) : Bool := isGr r s es && reAll r s es l l.length
def reS (r s : Int) (es : List Ed) (l : List tupF) : Int := if reAll r s es l l.length = true then (reSt r s es l l.length).1 else s
def reE (r s : Int) (es : List Ed) (l : List tupF) : List Ed := if reAll r s es l l.length = true then (reSt r s es l l.length).2 else es
theorem reSt_len (r s : Int) (es : List Ed) (l : List tupF) : ∀ i, (reSt r s es l i).2.length ≤ es.length := by
  intro i
  induction i with
  | zero => exact Nat.le_refl _
  | succ i ih => rw [reSt]; exact Nat.le_trans (mrE_length _ _ _ _) ih
theorem reAll_iff (r s : Int) (es : List Ed) (l : List tupF) : ∀ n, reAll r s es l n = true ↔ ∀ i, i < n → reOk r s es l i = true := by
  intro n
  induction n with
  | zero => simp [reAll]
  | succ n ih =>
    rw [reAll, Bool.and_eq_true, ih]
    constructor
    · rintro ⟨h1, h2⟩ i hi
      by_cases hin : i = n
      · subst hin; exact h2
      · exact h1 i (by omega)
    · intro h
      exact ⟨fun i hi => h i (by omega), h n (by omega)⟩
theorem reAll_not {r s : Int} {es : List Ed} {l : List tupF} {i n : Nat} (hi : i < n) (h : reOk r s es l i = false) : reAll r s es l n = false := by
  cases e : reAll r s es l n with
  | false => rfl
  | true => rw [(reAll_iff r s es l n).1 e i hi] at h; cases h
end Go.Proofs.Ytdeofaimgldklaa
