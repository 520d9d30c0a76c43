/- Plain mathematics of free reduction: stacks, products of many factors, associativity, inverses. -/
import Derived.Test.YtpjlamnjiilgbaaMW
namespace Go.Proofs.Ytpjlamnjiilgbaa
open Go.RowKit
set_option linter.unusedVariables false

/-- All letters are ints of 64 bits. -/
def InR (zs : List Int) : Prop := ∀ x ∈ zs, -9223372036854775808 ≤ x ∧ x ≤ 9223372036854775807
theorem InR.nil : InR [] := by intro x h; cases h
theorem InR.append {a b : List Int} (ha : InR a) (hb : InR b) : InR (a ++ b) := by
  intro x hx
  rcases List.mem_append.1 hx with h | h
  · exact ha x h
  · exact hb x h
theorem InR.left {a b : List Int} (h : InR (a ++ b)) : InR a := fun x hx => h x (List.mem_append_left _ hx)
theorem InR.right {a b : List Int} (h : InR (a ++ b)) : InR b := fun x hx => h x (List.mem_append_right _ hx)
theorem InR.head {x : Int} {a : List Int} (h : InR (x :: a)) : -9223372036854775808 ≤ x ∧ x ≤ 9223372036854775807 := h x List.mem_cons_self
theorem InR.tail {x : Int} {a : List Int} (h : InR (x :: a)) : InR a := fun y hy => h y (List.mem_cons_of_mem _ hy)
theorem InR.cons {x : Int} {a : List Int} (hx : -9223372036854775808 ≤ x ∧ x ≤ 9223372036854775807) (h : InR a) : InR (x :: a) := by
  intro y hy
  rcases List.mem_cons.1 hy with rfl | h'
  · exact hx
  · exact h y h'
theorem InR.take {zs : List Int} (h : InR zs) (k : Nat) : InR (zs.take k) := fun x hx => h x (List.mem_of_mem_take hx)
theorem InR.reverse {a : List Int} (h : InR a) : InR a.reverse := fun x hx => h x (List.mem_reverse.1 hx)
theorem InR.getD {a : List Int} (h : InR a) (i : Nat) (hi : i < a.length) : -9223372036854775808 ≤ a.getD i 0 ∧ a.getD i 0 ≤ 9223372036854775807 := by
  apply h
  rw [List.getD_eq_getElem?_getD, List.getElem?_eq_getElem hi]
  exact List.getElem_mem hi
theorem ng_in (x : Int) : -9223372036854775808 ≤ ng x ∧ ng x ≤ 9223372036854775807 := by
  unfold ng wrap64
  omega
theorem ng_of {x : Int} (h : -9223372036854775808 < x) (h2 : x ≤ 9223372036854775807) : ng x = -x := by
  unfold ng wrap64
  omega
theorem ng_min : ng (-9223372036854775808) = -9223372036854775808 := by unfold ng wrap64; omega
theorem ng_ng {x : Int} (h : -9223372036854775808 ≤ x ∧ x ≤ 9223372036854775807) : ng (ng x) = x := by
  unfold ng wrap64
  omega
theorem InR.invL {a : List Int} : InR (invL a) := by
  intro x hx
  obtain ⟨y, _, rfl⟩ := List.mem_map.1 (List.mem_reverse.1 hx)
  exact ng_in y
theorem invL_append (a b : List Int) : invL (a ++ b) = invL b ++ invL a := by simp [invL]
theorem invL_invL {a : List Int} (h : InR a) : invL (invL a) = a := by
  unfold invL
  rw [List.map_reverse, List.reverse_reverse, List.map_map]
  have : ∀ x ∈ a, (ng ∘ ng) x = id x := fun x hx => ng_ng (h x hx)
  rw [List.map_congr_left this, List.map_id]

/-- Are the letters y and x inverse to each other? -/
def inv (y x : Int) : Bool := decide (y + x = 0 ∧ x ≠ 0)
theorem inv_symm (y x : Int) : inv y x = inv x y := by
  unfold inv
  rw [decide_eq_decide]
  omega
/-- A letter on top of a stack. -/
def push : List Int → Int → List Int
  | [], x => [x]
  | y :: t, x => if inv y x = true then t else x :: y :: t
theorem push_yes {y x : Int} {t : List Int} (h : inv y x = true) : push (y :: t) x = t := if_pos h
theorem push_no {y x : Int} {t : List Int} (h : inv y x = false) : push (y :: t) x = x :: y :: t := by rw [push, h]; rfl
def stk (s zs : List Int) : List Int := zs.foldl push s
theorem stk_nil (s : List Int) : stk s [] = s := rfl
theorem stk_cons (s : List Int) (x : Int) (zs : List Int) : stk s (x :: zs) = stk (push s x) zs := rfl
theorem stk_append (s a b : List Int) : stk s (a ++ b) = stk (stk s a) b := List.foldl_append ..
theorem stk_snoc (s a : List Int) (c : Int) : stk s (a ++ [c]) = push (stk s a) c := by rw [stk_append]; rfl
theorem push_in {s : List Int} {x : Int} (hs : InR s) (hx : -9223372036854775808 ≤ x ∧ x ≤ 9223372036854775807) : InR (push s x) := by
  cases s with
  | nil => exact InR.cons hx InR.nil
  | cons y t =>
    cases h : inv y x with
    | true => rw [push_yes h]; exact hs.tail
    | false => rw [push_no h]; exact InR.cons hx hs
theorem stk_in {zs : List Int} : ∀ {s : List Int}, InR s → InR zs → InR (stk s zs) := by
  induction zs with
  | nil => intro s hs _; exact hs
  | cons x zs ih => intro s hs hz; exact ih (push_in hs hz.head) hz.tail
theorem push_length (s : List Int) (x : Int) : (push s x).length ≤ s.length + 1 := by
  cases s with
  | nil => exact Nat.le_refl _
  | cons y t =>
    cases h : inv y x with
    | true => rw [push_yes h]; simp; omega
    | false => rw [push_no h]; simp
theorem stk_length (zs : List Int) : ∀ s, (stk s zs).length ≤ s.length + zs.length := by
  induction zs with
  | nil => intro s; exact Nat.le_refl _
  | cons x zs ih =>
    intro s
    have h1 := ih (push s x)
    have h2 := push_length s x
    rw [stk_cons, List.length_cons]
    omega
/-- The cancelling of the model is that of the stack. -/
theorem rstep_push {s : List Int} {x : Int} (hs : InR s) (hx : -9223372036854775808 ≤ x ∧ x ≤ 9223372036854775807) : rstep s.reverse x = (push s x).reverse := by
  cases s with
  | nil => rfl
  | cons y t =>
    have hy := hs.head
    have hlast : (y :: t).reverse.getD ((y :: t).reverse.length - 1) 0 = y := by
      rw [List.getD_eq_getElem?_getD]
      simp
    have hc : cancels (y :: t).reverse x = inv y x := by
      unfold cancels inv
      rw [hlast, decide_eq_decide]
      simp only [List.length_reverse, List.length_cons, ne_eq]
      by_cases h1 : x = -9223372036854775808
      · subst h1
        rw [ng_min]
        omega
      · rw [ng_of (by omega) hx.2]
        omega
    cases h : inv y x with
    | true =>
      rw [rstep_yes (by rw [hc]; exact h), push_yes h]
      simp
    | false =>
      rw [rstep_no (by rw [hc]; exact h), push_no h]
      simp
theorem foldl_stk {zs : List Int} : ∀ {s : List Int}, InR s → InR zs → zs.foldl rstep s.reverse = (stk s zs).reverse := by
  induction zs with
  | nil => intro s _ _; rfl
  | cons x zs ih =>
    intro s hs hz
    rw [List.foldl_cons, rstep_push hs hz.head, stk_cons]
    exact ih (push_in hs hz.head) hz.tail
theorem redL_stk {zs : List Int} (h : InR zs) : redL zs = (stk [] zs).reverse := foldl_stk InR.nil h
theorem redL_in {zs : List Int} (h : InR zs) : InR (redL zs) := by rw [redL_stk h]; exact (stk_in InR.nil h).reverse

/-- No two neighbours are inverse. -/
def Red (s : List Int) : Prop := ∀ p a b q, s = p ++ a :: b :: q → inv a b = false
theorem Red.nil : Red [] := by
  intro p a b q h
  have := congrArg List.length h
  simp at this
theorem Red.tail {x : Int} {s : List Int} (h : Red (x :: s)) : Red s := fun p a b q e => h (x :: p) a b q (by rw [e]; rfl)
theorem Red.cons {x : Int} {s : List Int} (h : Red s) (hx : ∀ y t, s = y :: t → inv x y = false) : Red (x :: s) := by
  intro p a b q e
  cases p with
  | nil =>
    simp only [List.nil_append, List.cons.injEq] at e
    obtain ⟨rfl, e⟩ := e
    exact hx b q e
  | cons z p =>
    simp only [List.cons_append, List.cons.injEq] at e
    exact h p a b q e.2
theorem Red.reverse {s : List Int} (h : Red s) : Red s.reverse := by
  intro p a b q e
  rw [inv_symm]
  refine h q.reverse b a p.reverse ?_
  rw [← List.reverse_reverse s, e]
  simp
theorem Red.push {s : List Int} (h : Red s) (x : Int) : Red (push s x) := by
  cases s with
  | nil => exact Red.cons Red.nil (fun y t e => by cases e)
  | cons y t =>
    cases hi : inv y x with
    | true => rw [push_yes hi]; exact h.tail
    | false =>
      rw [push_no hi]
      refine h.cons (fun y' t' e => ?_)
      cases e
      rw [inv_symm]
      exact hi
theorem Red.stk {zs : List Int} : ∀ {s : List Int}, Red s → Red (stk s zs) := by
  induction zs with
  | nil => intro s h; exact h
  | cons x zs ih => intro s h; exact ih (h.push x)
theorem inv_eq {y x : Int} (h : inv y x = true) : y = -x ∧ x ≠ 0 := by
  unfold inv at h
  rw [decide_eq_true_eq] at h
  omega
/-- A letter and its inverse change nothing. -/
theorem push_push {s : List Int} (h : Red s) {a b : Int} (hab : inv a b = true) : push (push s a) b = s := by
  cases s with
  | nil => exact push_yes hab
  | cons y t =>
    cases hi : inv y a with
    | true =>
      rw [push_yes hi]
      have h1 := inv_eq hab
      have h2 := inv_eq hi
      obtain rfl : y = b := by omega
      cases t with
      | nil => rfl
      | cons z t' =>
        have := h [] y z t' rfl
        rw [push_no (by rw [inv_symm]; exact this)]
    | false =>
      rw [push_no hi, push_yes hab]
/-- A factor may be reduced before. -/
theorem stk_red (zs : List Int) {s : List Int} (hs : Red s) : stk s (stk [] zs).reverse = stk s zs := by
  suffices h : ∀ (l : List Int), stk s (stk [] l.reverse).reverse = stk s l.reverse by
    have := h zs.reverse
    rwa [List.reverse_reverse] at this
  intro l
  induction l with
  | nil => rfl
  | cons c l ih =>
    rw [List.reverse_cons, stk_snoc, stk_snoc, ← ih]
    cases hr : stk [] l.reverse with
    | nil => rfl
    | cons y t =>
      cases hi : inv y c with
      | true =>
        rw [push_yes hi, List.reverse_cons, stk_snoc, push_push hs.stk hi]
      | false =>
        rw [push_no hi, List.reverse_cons, stk_snoc]
theorem redL_append_red {a b : List Int} (ha : InR a) (hb : InR b) : redL (redL a ++ redL b) = redL (a ++ b) := by
  rw [redL_stk ((redL_in ha).append (redL_in hb)), redL_stk (ha.append hb), stk_append, stk_append, redL_stk ha, redL_stk hb, stk_red _ Red.nil, stk_red _ Red.nil.stk]
theorem redL_redL {a : List Int} (ha : InR a) : redL (redL a) = redL a := by
  have := redL_append_red ha InR.nil
  rw [List.append_nil] at this
  have h0 : redL [] = [] := rfl
  rwa [h0, List.append_nil] at this
theorem redL_left {a b : List Int} (ha : InR a) (hb : InR b) : redL (redL a ++ b) = redL (a ++ b) := by
  rw [← redL_append_red (redL_in ha) hb, redL_redL ha, redL_append_red ha hb]
theorem redL_right {a b : List Int} (ha : InR a) (hb : InR b) : redL (a ++ redL b) = redL (a ++ b) := by
  rw [← redL_append_red ha (redL_in hb), redL_redL hb, redL_append_red ha hb]
theorem mulL_assoc {a b c : List Int} (ha : InR a) (hb : InR b) (hc : InR c) : mulL (mulL a b) c = mulL a (mulL b c) := by
  unfold mulL
  rw [redL_left (ha.append hb) hc, redL_right ha (hb.append hc), List.append_assoc]
theorem mulL_in {a b : List Int} (ha : InR a) (hb : InR b) : InR (mulL a b) := redL_in (ha.append hb)
theorem comL_flat {a b : List Int} (ha : InR a) (hb : InR b) : comL a b = redL (a ++ b ++ (invL a ++ invL b)) := by
  unfold comL mulL
  rw [redL_append_red (ha.append hb) (InR.invL.append InR.invL)]
theorem conL_flat {a y : List Int} (ha : InR a) (hy : InR y) : conL a y = redL (invL y ++ a ++ y) := by
  unfold conL mulL
  rw [redL_left (InR.invL.append ha) hy]
theorem inv_ng {y x : Int} (hy : -9223372036854775808 ≤ y ∧ y ≤ 9223372036854775807) (hx : -9223372036854775808 ≤ x ∧ x ≤ 9223372036854775807) : inv (ng y) (ng x) = inv y x := by
  unfold inv
  rw [decide_eq_decide]
  by_cases h1 : x = -9223372036854775808
  · by_cases h2 : y = -9223372036854775808
    · subst h1; subst h2; rw [ng_min]
    · subst h1; rw [ng_min, ng_of (by omega) hy.2]; omega
  · rw [ng_of (by omega) hx.2]
    by_cases h2 : y = -9223372036854775808
    · subst h2; rw [ng_min]; omega
    · rw [ng_of (by omega) hy.2]; omega
theorem stk_inv {l : List Int} (hl : InR l) : ∀ {s : List Int}, Red s → stk s (invL (stk [] l.reverse).reverse) = stk s (invL l.reverse) := by
  induction l with
  | nil => intro s _; rfl
  | cons c l ih =>
    intro s hs
    have hin : InR (stk [] l.reverse) := stk_in InR.nil hl.tail.reverse
    have e1 : ∀ m : List Int, ∀ x : Int, invL (m ++ [x]) = ng x :: invL m := by intro m x; simp [invL]
    have hc := ih hl.tail (hs.push (ng c))
    rw [List.reverse_cons, stk_snoc, e1, stk_cons, ← hc]
    cases hr : stk [] l.reverse with
    | nil => rfl
    | cons y t =>
      rw [hr] at hin
      cases hi : inv y c with
      | true =>
        rw [push_yes hi, List.reverse_cons, e1, stk_cons, push_push hs]
        rw [inv_symm, inv_ng hin.head hl.head]
        exact hi
      | false =>
        rw [push_no hi, List.reverse_cons, e1, stk_cons]
theorem Red.map_ng {s : List Int} (h : Red s) (hin : InR s) : Red (s.map ng) := by
  intro p a b q e
  obtain ⟨p', r', rfl, rfl, h2⟩ := List.map_eq_append_iff.1 e
  obtain ⟨a', r'', rfl, rfl, h3⟩ := List.map_eq_cons_iff.1 h2
  obtain ⟨b', q', rfl, rfl, rfl⟩ := List.map_eq_cons_iff.1 h3
  rw [inv_ng (hin a' (by simp)) (hin b' (by simp))]
  exact h p' a' b' q' rfl
/-- What is reduced stays. -/
theorem stk_of_red {s : List Int} : ∀ {t : List Int}, Red (s.reverse ++ t) → stk t s = s.reverse ++ t := by
  induction s with
  | nil => intro t _; rfl
  | cons x s ih =>
    intro t h
    rw [List.reverse_cons, List.append_assoc] at h ⊢
    have hp : push t x = x :: t := by
      cases t with
      | nil => rfl
      | cons y t =>
        refine push_no ?_
        rw [inv_symm]
        exact h s.reverse x y t rfl
    rw [stk_cons, hp]
    exact ih h
/-- The inverse of a reduced product is the product of the inverses. -/
theorem invL_redL {z : List Int} (hz : InR z) : invL (redL z) = redL (invL z) := by
  have hs : stk [] (invL (redL z)) = stk [] (invL z) := by
    have := stk_inv hz.reverse Red.nil
    rw [List.reverse_reverse] at this
    rw [redL_stk hz]
    exact this
  rw [redL_stk InR.invL, ← hs]
  have hr : Red (stk [] z) := Red.nil.stk
  have hi : InR (stk [] z) := stk_in InR.nil hz
  have e : invL (stk [] z).reverse = (stk [] z).map ng := by simp [invL]
  have h1 := (hr.map_ng hi).reverse
  have h2 : stk [] ((stk [] z).map ng) = ((stk [] z).map ng).reverse ++ [] := stk_of_red (by rw [List.append_nil]; exact h1)
  rw [redL_stk hz, e, h2, List.append_nil, List.reverse_reverse]
theorem invL_mulL {a b : List Int} (ha : InR a) (hb : InR b) : invL (mulL a b) = mulL (invL b) (invL a) := by
  unfold mulL
  rw [invL_redL (ha.append hb), invL_append]
theorem flatten_in {zss : List (List Int)} (h : ∀ z ∈ zss, InR z) : InR zss.flatten := by
  intro x hx
  obtain ⟨z, hz, hxz⟩ := List.mem_flatten.1 hx
  exact h z hz x hxz
theorem rep_flat (z : List Int) (k : Nat) : rep z k = (List.replicate k z).flatten := by
  induction k with
  | zero => rfl
  | succ k ih => rw [rep, List.replicate_succ', List.flatten_append, ih]; simp
end Go.Proofs.Ytpjlamnjiilgbaa
