/- Plain mathematics of words: lists of ints. -/
import Derived.Test.YtpjlamnjiilgbaaR
namespace Go.Proofs.Ytpjlamnjiilgbaa
open Go.RowKit
set_option linter.unusedVariables false

/-- The inverse of a letter, as Go reckons it. -/
def ng (x : Int) : Int := wrap64 (-x)
def invL (zs : List Int) : List Int := (zs.map ng).reverse
theorem invL_drop (zs : List Int) (j : Nat) (h : j < zs.length) : invL (zs.drop j) = invL (zs.drop (j + 1)) ++ [ng (zs.getD j 0)] := by
  unfold invL
  rw [List.drop_eq_getElem_cons h, List.map_cons, List.reverse_cons]
  simp [List.getD_eq_getElem?_getD, h]
theorem invL_length (zs : List Int) : (invL zs).length = zs.length := by simp [invL]
/-- Does the letter x cancel with the last one? -/
def cancels (out : List Int) (x : Int) : Bool := decide (0 < out.length ∧ x ≠ 0 ∧ out.getD (out.length - 1) 0 = ng x ∧ out.getD (out.length - 1) 0 ≠ x)
def rstep (out : List Int) (x : Int) : List Int := if cancels out x = true then out.take (out.length - 1) else out ++ [x]
def redL (zs : List Int) : List Int := zs.foldl rstep []
theorem redL_take (zs : List Int) (k : Nat) (h : k < zs.length) : redL (zs.take (k + 1)) = rstep (redL (zs.take k)) (zs.getD k 0) := by
  unfold redL
  rw [List.take_succ_eq_append_getElem h, List.foldl_append]
  simp [List.getD_eq_getElem?_getD, h]
theorem rstep_length (out : List Int) (x : Int) : (rstep out x).length ≤ out.length + 1 := by
  unfold rstep
  split
  · rw [List.length_take]; omega
  · simp
theorem redL_length (zs : List Int) : (redL zs).length ≤ zs.length := by
  suffices h : ∀ (l out : List Int), (l.foldl rstep out).length ≤ out.length + l.length by
    have := h zs []
    simpa [redL] using this
  intro l
  induction l with
  | nil => intro out; simp
  | cons x l ih =>
    intro out
    have h1 := ih (rstep out x)
    have h2 := rstep_length out x
    simp only [List.foldl_cons, List.length_cons]
    omega
theorem rstep_yes {out : List Int} {x : Int} (h : cancels out x = true) : rstep out x = out.take (out.length - 1) := if_pos h
theorem rstep_no {out : List Int} {x : Int} (h : cancels out x = false) : rstep out x = out ++ [x] := by unfold rstep; rw [h]; rfl
def mulL (a b : List Int) : List Int := redL (a ++ b)
theorem mulL_length (a b : List Int) : (mulL a b).length ≤ a.length + b.length := by
  have := redL_length (a ++ b)
  rw [List.length_append] at this
  exact this
def comL (a b : List Int) : List Int := mulL (mulL a b) (mulL (invL a) (invL b))
def conL (w y : List Int) : List Int := mulL (mulL (invL y) w) y
/-- k copies of zs. -/
def rep (zs : List Int) : Nat → List Int
  | 0 => []
  | k + 1 => rep zs k ++ zs
theorem rep_length (zs : List Int) (k : Nat) : (rep zs k).length = k * zs.length := by
  induction k with
  | zero => simp [rep]
  | succ k ih => rw [rep, List.length_append, ih, Nat.add_mul]; omega
def powL (zs : List Int) (k : Int) : List Int := if 24 < k ∨ k < -24 then [] else if k < 0 then redL (rep (invL zs) k.natAbs) else redL (rep zs k.natAbs)
theorem powL_out {zs : List Int} {k : Int} (h : 24 < k ∨ k < -24) : powL zs k = [] := if_pos h
theorem powL_neg {zs : List Int} {k : Int} (h1 : ¬ k < -24) (h2 : k < 0) : powL zs k = redL (rep (invL zs) k.natAbs) := by
  unfold powL; rw [if_neg (by omega), if_pos h2]
theorem powL_pos {zs : List Int} {k : Int} (h1 : ¬ 24 < k) (h2 : 0 ≤ k) : powL zs k = redL (rep zs k.natAbs) := by
  unfold powL; rw [if_neg (by omega), if_neg (by omega)]
theorem powL_length (zs : List Int) (k : Int) : (powL zs k).length ≤ 24 * zs.length := by
  unfold powL
  split
  · simp
  · have hk : k.natAbs ≤ 24 := by omega
    have h1 := redL_length (rep (invL zs) k.natAbs)
    have h2 := redL_length (rep zs k.natAbs)
    rw [rep_length] at h1 h2
    rw [invL_length] at h1
    have h3 : k.natAbs * zs.length ≤ 24 * zs.length := Nat.mul_le_mul_right _ hk
    split <;> omega
/-- The order of letters 0, 1, -1, 2, -2 and so on, as Go reckons it. -/
def ordI (x y : Int) : Int :=
  if x = y then 0
  else if max x (ng x) < 0 then 1
  else if 0 ≤ max y (ng y) ∧ max y (ng y) < max x (ng x) then 1
  else if max x (ng x) = max y (ng y) ∧ x < y then 1
  else -1
/-- The first letter that differs decides. -/
def cmpL : List Int → List Int → Int
  | x :: xs, y :: ys => if ordI x y = 0 then cmpL xs ys else ordI x y
  | _, _ => 0
theorem cmpL_drop (a b : List Int) (k : Nat) (h1 : k < a.length) (h2 : k < b.length) :
    cmpL (a.drop k) (b.drop k) = if ordI (a.getD k 0) (b.getD k 0) = 0 then cmpL (a.drop (k + 1)) (b.drop (k + 1)) else ordI (a.getD k 0) (b.getD k 0) := by
  rw [List.drop_eq_getElem_cons h1, List.drop_eq_getElem_cons h2, cmpL]
  simp [List.getD_eq_getElem?_getD, h1, h2]
def cmpI (a b : List Int) : Int := if a.length < b.length then -1 else if b.length < a.length then 1 else cmpL a b
end Go.Proofs.Ytpjlamnjiilgbaa
