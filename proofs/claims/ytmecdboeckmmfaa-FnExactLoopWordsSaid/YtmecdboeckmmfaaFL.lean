/- Loops in a folded graph, plain mathematics: one growing list of walks, or layer by layer. -/
import Derived.Test.YtmecdboeckmmfaaFA
namespace Go.Proofs.Ytmecdboeckmmfaa
open Go.RowKit
set_option linter.unusedVariables false
set_option linter.unusedSimpArgs false

/-- A word and the vertex to which it leads. -/
abbrev Wa := List Int × Int
/-- May the letter follow the word? -/
def okNext (w : List Int) (l : Int) : Bool := match w.getLast? with | none => true | some x => decide (l ≠ -x)
def kid1 (es : List Ed) (p : Wa) (l : Int) : List Wa := if 0 ≤ nxV es p.2 l ∧ okNext p.1 l = true then [(p.1 ++ [l], nxV es p.2 l)] else []
def kids (es : List Ed) (ls : List Int) (p : Wa) : List Wa := ls.flatMap (kid1 es p)
def kidsTo (es : List Ed) (ls : List Int) (most : Nat) (p : Wa) : List Wa := if p.1.length < most then kids es ls p else []
def layerW (es : List Ed) (ls : List Int) (v : Int) : Nat → List Wa
  | 0 => [([], v)]
  | n + 1 => (layerW es ls v n).flatMap (kids es ls)
/-- All layers up to n. -/
def upW (es : List Ed) (ls : List Int) (v : Int) : Nat → List Wa
  | 0 => layerW es ls v 0
  | n + 1 => upW es ls v n ++ layerW es ls v (n + 1)
theorem kid1_len {es : List Ed} {p q : Wa} {l : Int} (h : q ∈ kid1 es p l) : q.1.length = p.1.length + 1 := by
  unfold kid1 at h
  split at h
  · rw [List.mem_singleton] at h; rw [h]; simp
  · cases h
theorem kids_len {es : List Ed} {ls : List Int} {p q : Wa} (h : q ∈ kids es ls p) : q.1.length = p.1.length + 1 := by
  unfold kids at h
  rw [List.mem_flatMap] at h
  obtain ⟨l, _, h⟩ := h
  exact kid1_len h
theorem layerW_len {es : List Ed} {ls : List Int} {v : Int} : ∀ (n : Nat) (p : Wa), p ∈ layerW es ls v n → p.1.length = n := by
  intro n
  induction n with
  | zero => intro p h; rw [layerW, List.mem_singleton] at h; rw [h]; rfl
  | succ n ih =>
    intro p h
    rw [layerW, List.mem_flatMap] at h
    obtain ⟨q, hq, h⟩ := h
    rw [kids_len h, ih q hq]
theorem flatMap_same {α β : Type} {f g : α → List β} : ∀ {l : List α}, (∀ x ∈ l, f x = g x) → l.flatMap f = l.flatMap g := by
  intro l
  induction l with
  | nil => intro _; rfl
  | cons a l ih => intro h; rw [List.flatMap_cons, List.flatMap_cons, h a List.mem_cons_self, ih fun x hx => h x (List.mem_cons_of_mem _ hx)]
theorem flatMap_none {α β : Type} {f : α → List β} : ∀ {l : List α}, (∀ x ∈ l, f x = []) → l.flatMap f = [] := by
  intro l
  induction l with
  | nil => intro _; rfl
  | cons a l ih => intro h; rw [List.flatMap_cons, h a List.mem_cons_self, ih fun x hx => h x (List.mem_cons_of_mem _ hx)]; rfl
/-- The layers below n, taken one letter further, are the layers from 1 to n. -/
theorem upW_kids {es : List Ed} {ls : List Int} {v : Int} {most : Nat} : ∀ n, n < most → layerW es ls v 0 ++ (upW es ls v n).flatMap (kidsTo es ls most) = upW es ls v (n + 1) := by
  have hl : ∀ n, n < most → (layerW es ls v n).flatMap (kidsTo es ls most) = layerW es ls v (n + 1) := fun n hn =>
    flatMap_same fun p hp => by unfold kidsTo; rw [layerW_len n p hp, if_pos hn]
  intro n
  induction n with
  | zero => intro hn; rw [upW, hl 0 hn]; rfl
  | succ n ih =>
    intro hn
    rw [upW, List.flatMap_append, ← List.append_assoc, ih (by omega), hl (n + 1) hn]; rfl
theorem upW_fix {es : List Ed} {ls : List Int} {v : Int} : ∀ most : Nat, layerW es ls v 0 ++ (upW es ls v most).flatMap (kidsTo es ls most) = upW es ls v most := by
  intro most
  have hlast : (layerW es ls v most).flatMap (kidsTo es ls most) = [] := flatMap_none fun p hp => by unfold kidsTo; rw [layerW_len most p hp, if_neg (by omega)]
  cases most with
  | zero => rw [upW, hlast, List.append_nil]
  | succ n =>
    rw [upW, List.flatMap_append, hlast, List.append_nil]
    have := upW_kids (es := es) (ls := ls) (v := v) (most := n + 1) n (by omega)
    rw [this]; rfl
/-- The growing list after i of its walks have been continued. -/
def growW (es : List Ed) (ls : List Int) (v : Int) (most : Nat) : Nat → List Wa
  | 0 => [([], v)]
  | i + 1 => growW es ls v most i ++ kidsTo es ls most ((growW es ls v most i).getD i ([], v))
theorem take_snoc {α : Type} {l : List α} {i : Nat} (h : i < l.length) : l.take (i + 1) = l.take i ++ [l[i]] := by
  rw [List.take_add_one, List.getElem?_eq_getElem h]; rfl
theorem kidsTo_len {es : List Ed} {ls : List Int} {most : Nat} {p q : Wa} (h : q ∈ kidsTo es ls most p) : q.1.length = p.1.length + 1 := by
  unfold kidsTo at h
  split at h
  · exact kids_len h
  · cases h
theorem own_kids {es : List Ed} {ls : List Int} {most : Nat} {D : List Wa} (h : D = D.flatMap (kidsTo es ls most)) : D = [] := by
  have hno : ∀ n, ∀ p ∈ D, p.1.length ≠ n := by
    intro n
    induction n with
    | zero =>
      intro p hp he
      rw [h, List.mem_flatMap] at hp
      obtain ⟨q, _, hq⟩ := hp
      have := kidsTo_len hq
      omega
    | succ n ih =>
      intro p hp he
      rw [h, List.mem_flatMap] at hp
      obtain ⟨q, hq0, hq⟩ := hp
      have := kidsTo_len hq
      exact ih q hq0 (by omega)
  refine List.eq_nil_iff_forall_not_mem.2 fun p hp => hno _ p hp rfl
theorem growW_more {es : List Ed} {ls : List Int} {v : Int} {most i : Nat} : (growW es ls v most i).length ≤ (growW es ls v most (i + 1)).length := by
  rw [growW, List.length_append]; omega
/-- As long as it has walks left, it is a beginning of all layers. -/
theorem growW_is {es : List Ed} {ls : List Int} {v : Int} {most : Nat} : ∀ i, (∀ j, j < i → j < (growW es ls v most j).length) → i ≤ (upW es ls v most).length ∧ growW es ls v most i = layerW es ls v 0 ++ ((upW es ls v most).take i).flatMap (kidsTo es ls most) := by
  intro i
  induction i with
  | zero => intro _; exact ⟨Nat.zero_le _, rfl⟩
  | succ i ih =>
    intro hi
    have hfix := upW_fix (es := es) (ls := ls) (v := v) most
    have hlt := hi i (by omega)
    obtain ⟨h1, h2⟩ := ih (fun j hj => hi j (by omega))
    have hsplit : upW es ls v most = growW es ls v most i ++ ((upW es ls v most).drop i).flatMap (kidsTo es ls most) := by
      rw [h2, List.append_assoc, ← List.flatMap_append, List.take_append_drop, hfix]
    have hlen : i < (upW es ls v most).length := by rw [hsplit, List.length_append]; omega
    have hget : (growW es ls v most i).getD i ([], v) = (upW es ls v most)[i] := by
      have : (upW es ls v most)[i]? = (growW es ls v most i)[i]? := by
        conv => lhs; rw [hsplit]
        rw [List.getElem?_append_left hlt]
      rw [List.getElem?_eq_getElem hlen] at this
      rw [List.getD_eq_getElem?_getD, ← this]; rfl
    refine ⟨by omega, ?_⟩
    rw [growW, hget, h2, take_snoc hlen, List.flatMap_append, List.append_assoc]
    simp
/-- With no walk left it is all layers. -/
theorem growW_end {es : List Ed} {ls : List Int} {v : Int} {most i : Nat} (hi : ∀ j, j < i → j < (growW es ls v most j).length) (he : ¬ i < (growW es ls v most i).length) : growW es ls v most i = upW es ls v most := by
  obtain ⟨h1, h2⟩ := growW_is i hi
  have hfix := upW_fix (es := es) (ls := ls) (v := v) most
  have hsplit : upW es ls v most = growW es ls v most i ++ ((upW es ls v most).drop i).flatMap (kidsTo es ls most) := by
    rw [h2, List.append_assoc, ← List.flatMap_append, List.take_append_drop, hfix]
  have hlen : (growW es ls v most i).length = i := by
    cases i with
    | zero => simp [growW] at he
    | succ i => have := hi i (by omega); have := growW_more (es := es) (ls := ls) (v := v) (most := most) (i := i); omega
  have htake : (upW es ls v most).take i = growW es ls v most i := by
    conv => lhs; rw [hsplit]
    rw [List.take_append_of_le_length (by omega), List.take_of_length_le (by omega)]
  have hdrop : (upW es ls v most).drop i = ((upW es ls v most).drop i).flatMap (kidsTo es ls most) := by
    conv => lhs; rw [hsplit]
    rw [List.drop_append_of_le_length (by omega), List.drop_of_length_le (by omega), List.nil_append]
  have hnil := own_kids hdrop
  rw [← htake]
  have := List.take_append_drop i (upW es ls v most)
  rw [hnil, List.append_nil] at this
  exact this
/-- What LoopWords answers. -/
def loopsL (es : List Ed) (ls : List Int) (v : Int) (most : Nat) : List (List Int) := ((upW es ls v most).filter fun p => p.2 == v).map (·.1)
end Go.Proofs.Ytmecdboeckmmfaa
