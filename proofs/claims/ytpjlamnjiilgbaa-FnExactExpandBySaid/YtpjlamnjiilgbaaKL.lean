/- Products of elements of a basis, plain mathematics. -/
import Derived.Test.YtpjlamnjiilgbaaMX
namespace Go.Proofs.Ytpjlamnjiilgbaa
open Go.RowKit
set_option linter.unusedVariables false
set_option linter.unusedSimpArgs false

/-- What ExpandBy makes of a number. -/
def facL (B : List (List Int)) (k : Int) : List Int := if 1 ≤ k ∧ k ≤ (B.length : Int) then B.getD (k - 1).toNat [] else if k < 0 ∧ -(B.length : Int) ≤ k then invL (B.getD (-k - 1).toNat []) else []
def facs (B : List (List Int)) (ns : List Int) : List Int := (ns.map (facL B)).flatten
theorem facs_append (B : List (List Int)) (a b : List Int) : facs B (a ++ b) = facs B a ++ facs B b := by unfold facs; rw [List.map_append, List.flatten_append]
theorem facs_one (B : List (List Int)) (k : Int) : facs B [k] = facL B k := by unfold facs; simp
theorem facL_pos {B : List (List Int)} {j : Nat} (h : j < B.length) : facL B ((j : Int) + 1) = B.getD j [] := by
  unfold facL
  rw [if_pos (by omega)]
  congr 1
  omega
theorem facL_neg {B : List (List Int)} {j : Nat} (h : j < B.length) : facL B (-((j : Int) + 1)) = invL (B.getD j []) := by
  unfold facL
  rw [if_neg (by omega), if_pos (by omega)]
  congr 2
  omega
theorem facL_out {B : List (List Int)} {k : Int} (h : ¬ (1 ≤ k ∧ k ≤ (B.length : Int))) (h2 : ¬ (k < 0 ∧ -(B.length : Int) ≤ k)) : facL B k = [] := by
  unfold facL
  rw [if_neg h, if_neg h2]
theorem facL_in {B : List (List Int)} (h : ∀ z ∈ B, InR z) (k : Int) : InR (facL B k) := by
  unfold facL
  split
  · rename_i q
    have hlt : (k - 1).toNat < B.length := by omega
    rw [List.getD_eq_getElem?_getD, List.getElem?_eq_getElem hlt]
    exact h _ (List.getElem_mem hlt)
  · split
    · exact InR.invL
    · exact InR.nil
theorem facs_in {B : List (List Int)} (h : ∀ z ∈ B, InR z) (ns : List Int) : InR (facs B ns) := by
  unfold facs
  refine flatten_in fun z hz => ?_
  obtain ⟨k, _, rfl⟩ := List.mem_map.1 hz
  exact facL_in h k
theorem facL_len {B : List (List Int)} {L : Nat} (h : ∀ i, i < B.length → (B.getD i []).length ≤ L) (k : Int) : (facL B k).length ≤ L := by
  unfold facL
  split
  · exact h _ (by omega)
  · split
    · rw [invL_length]; exact h _ (by omega)
    · simp
theorem facs_len {B : List (List Int)} {L : Nat} (h : ∀ i, i < B.length → (B.getD i []).length ≤ L) (ns : List Int) : (facs B ns).length ≤ ns.length * L := by
  induction ns with
  | nil => simp [facs]
  | cons k ns ih =>
    have h1 := facL_len h k
    have e : facs B (k :: ns) = facL B k ++ facs B ns := by unfold facs; rw [List.map_cons, List.flatten_cons]
    rw [e, List.length_append, List.length_cons, Nat.add_mul]
    omega
theorem facs_take {B : List (List Int)} {ns : List Int} {k : Nat} (h : k < ns.length) : facs B (ns.take (k + 1)) = facs B (ns.take k) ++ facL B (ns.getD k 0) := by
  rw [List.take_succ_eq_append_getElem h, facs_append, facs_one]
  simp [List.getD_eq_getElem?_getD, h]
/-- ExpandBy's answer. -/
def exL (B : List (List Int)) (ns : List Int) : List Int := redL (facs B (ns.take 200))
theorem exL_len {B : List (List Int)} (h : ∀ i, i < B.length → (B.getD i []).length ≤ 1048576) (ns : List Int) : (facs B (ns.take 200)).length ≤ 209715200 ∧ (exL B ns).length ≤ 209715200 := by
  have h1 := facs_len h (ns.take 200)
  have h2 : (ns.take 200).length ≤ 200 := by rw [List.length_take]; omega
  have h3 : (ns.take 200).length * 1048576 ≤ 200 * 1048576 := Nat.mul_le_mul_right _ h2
  have h4 := redL_length (facs B (ns.take 200))
  unfold exL
  omega
end Go.Proofs.Ytpjlamnjiilgbaa
