/- Loops in a folded graph, plain mathematics: how many walks, how long, where they end. -/
import Derived.Test.YtmecdboeckmmfaaFL
import Derived.Test.YtmecdboeckmmfaaLET
import Derived.Test.YtmecdboeckmmfaaLS1
namespace Go.Proofs.Ytmecdboeckmmfaa
open Go.RowKit
set_option linter.unusedVariables false
set_option linter.unusedSimpArgs false

theorem letsN_ne : ∀ k, ∀ l ∈ letsN k, l ≠ 0 := by
  intro k
  induction k with
  | zero => intro l h; cases h
  | succ k ih =>
    intro l h
    rw [letsN, List.mem_append] at h
    rcases h with h | h
    · exact ih l h
    · simp at h; omega
/-- A walk as the lists hold it. -/
def GoodW (s : Int) (m : Nat) (p : Wa) : Prop := p.1.length ≤ m ∧ (∀ x ∈ p.1, -3 ≤ x ∧ x ≤ 3 ∧ x ≠ 0) ∧ 0 ≤ p.2 ∧ p.2 < s
def LetsOk (ls : List Int) : Prop := ls.length ≤ 6 ∧ ∀ l ∈ ls, -3 ≤ l ∧ l ≤ 3 ∧ l ≠ 0
theorem letsN_ok {k : Nat} (h : k ≤ 3) : LetsOk (letsN k) := ⟨by rw [letsN_length]; omega, fun l hl => by have := letsN_in k l hl; have := letsN_ne k l hl; omega⟩
theorem kids_good {r s : Int} {es : List Ed} {ls : List Int} (hfo : isFo r s es = true) (hls : LetsOk ls) {m : Nat} {p q : Wa} (hp : GoodW s m p) (hq : q ∈ kids es ls p) : GoodW s (m + 1) q := by
  unfold isFo at hfo
  rw [Bool.and_eq_true] at hfo
  unfold kids at hq
  rw [List.mem_flatMap] at hq
  obtain ⟨l, hl, hq⟩ := hq
  unfold kid1 at hq
  split at hq
  · rename_i hc
    rw [List.mem_singleton] at hq
    subst hq
    have hl2 := hls.2 l hl
    refine ⟨by have := hp.1; simp; omega, fun x hx => ?_, hc.1, ?_⟩
    · rcases List.mem_append.1 hx with hx | hx
      · exact hp.2.1 x hx
      · rw [List.mem_singleton] at hx; subst hx; exact hl2
    · rcases nx_cases hfo.1 hfo.2 (v := p.2) (l := l) (by omega) with h1 | h1
      · exact h1.2.2
      · have := hc.1; have := h1.1; omega
  · cases hq
theorem grow_good {r s : Int} {es : List Ed} {ls : List Int} (hfo : isFo r s es = true) (hls : LetsOk ls) {v : Int} (hv : 0 ≤ v ∧ v < s) (most : Nat) : ∀ i, ∀ p ∈ growW es ls v most i, GoodW s most p := by
  have hd : GoodW s most ([], v) := ⟨by simp, (fun x hx => (List.not_mem_nil hx).elim), hv.1, hv.2⟩
  intro i
  induction i with
  | zero => intro p hp; rw [growW, List.mem_singleton] at hp; subst hp; exact hd
  | succ i ih =>
    intro p hp
    rw [growW, List.mem_append] at hp
    rcases hp with hp | hp
    · exact ih p hp
    · unfold kidsTo at hp
      split at hp
      · rename_i hlt
        have hg : GoodW s most ((growW es ls v most i).getD i ([], v)) := by
          rw [List.getD_eq_getElem?_getD]
          cases hx : (growW es ls v most i)[i]? with
          | none => exact hd
          | some x => exact ih x (List.mem_of_getElem? hx)
        have h2 : GoodW s ((growW es ls v most i).getD i ([], v)).1.length ((growW es ls v most i).getD i ([], v)) := ⟨Nat.le_refl _, hg.2⟩
        have h3 := kids_good hfo hls h2 hp
        exact ⟨by have := h3.1; omega, h3.2⟩
      · cases hp
theorem kids_count {es : List Ed} {ls : List Int} (hls : ls.length ≤ 6) (p : Wa) : (kids es ls p).length ≤ 6 := by
  have h2 : ∀ L : List Int, (L.flatMap (kid1 es p)).length ≤ L.length := by
    intro L
    induction L with
    | nil => simp
    | cons a L ih =>
      rw [List.flatMap_cons, List.length_append, List.length_cons]
      have : (kid1 es p a).length ≤ 1 := by unfold kid1; split <;> simp
      omega
  have := h2 ls
  unfold kids
  omega
theorem flat_count {α β : Type} {f : α → List β} {n : Nat} (h : ∀ x, (f x).length ≤ n) : ∀ L : List α, (L.flatMap f).length ≤ n * L.length := by
  intro L
  induction L with
  | nil => simp
  | cons a L ih =>
    rw [List.flatMap_cons, List.length_append, List.length_cons, Nat.mul_succ]
    have := h a
    omega
theorem layer_count {es : List Ed} {ls : List Int} (hls : ls.length ≤ 6) (v : Int) (n : Nat) : (layerW es ls v (n + 1)).length ≤ 6 * (layerW es ls v n).length := flat_count (fun p => kids_count hls p) _
theorem up_count {es : List Ed} {ls : List Int} (hls : ls.length ≤ 6) (v : Int) {most : Nat} (hm : most ≤ 4) : (upW es ls v most).length ≤ 1555 ∧ (layerW es ls v most).length ≤ 1296 := by
  have h0 : (layerW es ls v 0).length = 1 := rfl
  have h1 := layer_count (es := es) hls v 0
  have h2 := layer_count (es := es) hls v 1
  have h3 := layer_count (es := es) hls v 2
  have h4 := layer_count (es := es) hls v 3
  have hu : ∀ n, (upW es ls v (n + 1)).length = (upW es ls v n).length + (layerW es ls v (n + 1)).length := fun n => by rw [upW, List.length_append]
  have u0 : (upW es ls v 0).length = 1 := rfl
  have u1 := hu 0
  have u2 := hu 1
  have u3 := hu 2
  have u4 := hu 3
  have hc : most = 0 ∨ most = 1 ∨ most = 2 ∨ most = 3 ∨ most = 4 := by omega
  rcases hc with rfl | rfl | rfl | rfl | rfl
  · omega
  · simp only [Nat.zero_add] at h1 u1; omega
  · simp only [Nat.zero_add, Nat.reduceAdd] at h1 u1 h2 u2; omega
  · simp only [Nat.zero_add, Nat.reduceAdd] at h1 u1 h2 u2 h3 u3; omega
  · simp only [Nat.zero_add, Nat.reduceAdd] at h1 u1 h2 u2 h3 u3 h4 u4; omega
theorem grow_count {es : List Ed} {ls : List Int} {v : Int} {most i : Nat} (hi : ∀ j, j < i → j < (growW es ls v most j).length) : i ≤ (upW es ls v most).length ∧ (growW es ls v most i).length ≤ (upW es ls v most).length := by
  obtain ⟨h1, h2⟩ := growW_is i hi
  refine ⟨h1, ?_⟩
  have hfix := upW_fix (es := es) (ls := ls) (v := v) most
  have hsplit : upW es ls v most = growW es ls v most i ++ ((upW es ls v most).drop i).flatMap (kidsTo es ls most) := by
    rw [h2, List.append_assoc, ← List.flatMap_append, List.take_append_drop, hfix]
  rw [hsplit, List.length_append]
  omega
theorem up_len {es : List Ed} {ls : List Int} {v : Int} : ∀ n, ∀ p ∈ upW es ls v n, p.1.length ≤ n := by
  intro n
  induction n with
  | zero => intro p hp; have := layerW_len 0 p hp; omega
  | succ n ih =>
    intro p hp
    rw [upW, List.mem_append] at hp
    rcases hp with hp | hp
    · have := ih p hp; omega
    · have := layerW_len (n + 1) p hp; omega
theorem sum_le {m : Nat} : ∀ L : List (List Int), (∀ w ∈ L, w.length ≤ m) → sumN (L.map List.length) ≤ m * L.length := by
  intro L
  induction L with
  | nil => intro _; simp [sumN]
  | cons a L ih =>
    intro h
    have h1 := h a List.mem_cons_self
    have h2 := ih fun w hw => h w (List.mem_cons_of_mem _ hw)
    rw [List.map_cons, sumN, List.length_cons, Nat.mul_succ]
    omega
theorem loops_le {es : List Ed} {ls : List Int} (hls : ls.length ≤ 6) (v : Int) {most : Nat} (hm : most ≤ 4) : (loopsL es ls v most).length ≤ 1555 ∧ sumN ((loopsL es ls v most).map List.length) ≤ 6220 := by
  have h1 : (loopsL es ls v most).length ≤ 1555 := by
    unfold loopsL
    rw [List.length_map]
    have := List.length_filter_le (fun p : Wa => p.2 == v) (upW es ls v most)
    have := (up_count (es := es) hls v hm).1
    omega
  have h2 := sum_le (m := most) (loopsL es ls v most) fun w hw => by
    unfold loopsL at hw
    rw [List.mem_map] at hw
    obtain ⟨p, hp, rfl⟩ := hw
    exact up_len most p (List.mem_filter.1 hp).1
  refine ⟨h1, ?_⟩
  have : most * (loopsL es ls v most).length ≤ 4 * 1555 := Nat.mul_le_mul hm h1
  omega
/-- What LoopWords answers. -/
def lwAns (r s : Int) (es : List Ed) (x m : Int) : List (List Int) := if isFo r s es = true ∧ (0 ≤ x ∧ x < s) ∧ 0 ≤ m ∧ m ≤ 4 then loopsL es (letsN r.toNat) x m.toNat else []
theorem lwAns_le (r s : Int) (es : List Ed) (x m : Int) : (lwAns r s es x m).length ≤ 1000000000 ∧ sumN ((lwAns r s es x m).map List.length) ≤ 100000000 := by
  unfold lwAns
  split
  · rename_i h
    have hfo := h.1
    unfold isFo at hfo
    rw [Bool.and_eq_true] at hfo
    have hr := isGr_lim hfo.1
    have := loops_le (es := es) (letsN_ok (k := r.toNat) (by omega)).1 x (most := m.toNat) (by omega)
    omega
  · simp [sumN]
end Go.Proofs.Ytmecdboeckmmfaa
