import Derived.Laws.AppendOwnNone
import Derived.Test.YtpjlamnjiilgbaaGreatJ12Ba
import Derived.Test.YtpjlamnjiilgbaaGreatJ7Ba
import Derived.Test.YtpjlamnjiilgbaaGreatJ10Ba
import Derived.Test.YtpjlamnjiilgbaaGreatJ0Ba
import Derived.Test.YtpjlamnjiilgbaaGreatJ2Ba
namespace Go.Proofs.YtpjlamnjiilgbaaGreat
open Go.RowKit
set_option linter.unusedVariables false
set_option linter.unusedSimpArgs false
def Rd (es : List Ed) : Int → List Int → Int → Prop
 | v, [], x => v = x
 | v, l :: w, x => ∃ y, StepAt es v l y ∧ Rd es y w x
theorem rd_append {es : List Ed} {a b : List Int} : ∀ {v x : Int}, Rd es v (a ++ b) x ↔ ∃ y, Rd es v a y ∧ Rd es y b x := by
 induction a with
 | nil => intro v x; exact ⟨fun h => ⟨v, rfl, h⟩, fun ⟨y, h1, h2⟩ => by have h1' : v = y := h1; rw [h1']; exact h2⟩
 | cons l a ih =>
  intro v x
  constructor
  · rintro ⟨z, h1, h2⟩
    obtain ⟨y, h3, h4⟩ := ih.1 h2
    exact ⟨y, ⟨z, h1, h3⟩, h4⟩
  · rintro ⟨y, ⟨z, h1, h3⟩, h4⟩
    exact ⟨z, h1, ih.2 ⟨y, h3, h4⟩⟩
theorem rd_one {es : List Ed} {v l x : Int} : Rd es v [l] x ↔ StepAt es v l x :=
 ⟨fun ⟨y, h1, h2⟩ => by have h2' : y = x := h2; rw [← h2']; exact h1, fun h => ⟨x, h, rfl⟩⟩
theorem step_back {es : List Ed} {v l y : Int} (h : StepAt es v l y) : StepAt es y (-l) v := by
 rw [step_iff] at h ⊢
 rw [Int.neg_neg]
 exact h.symm
section
variable {r s : Int} {es : List Ed}
theorem rd_wk (hg : isGr r s es = true) (hf : foldB es es.length = true) : ∀ {w : List Int}, InR w → ∀ {v x : Int}, wk es v w = (x, w.length) ↔ Rd es v w x := by
 intro w
 induction w with
 | nil =>
  intro _ v x
  show (v, 0) = (x, 0) ↔ v = x
  simp
 | cons l w ih =>
  intro hin v x
  have hl := hin.head
  rw [wk]
  rcases nx_cases hg hf (v := v) (l := l) hl with h | h
  · have h0 : ¬ nxV es v l < 0 := by have := h.2; omega
    rw [if_neg h0]
    constructor
    · intro e
      have e1 := congrArg Prod.fst e
      have e2 := congrArg Prod.snd e
      simp only [List.length_cons] at e1 e2
      refine ⟨nxV es v l, h.1, (ih hin.tail).1 (Prod.ext e1 ?_)⟩
      show (wk es (nxV es v l) w).2 = w.length
      omega
    · rintro ⟨y, h1, h2⟩
      have hy := stepAt_uniq hg hf h1 h.1
      subst hy
      have := (ih hin.tail).2 h2
      rw [this]
      rfl
  · have h0 : nxV es v l < 0 := by have := h.1; omega
    rw [if_pos h0]
    constructor
    · intro e
      have e2 := congrArg Prod.snd e
      simp at e2
    · rintro ⟨y, h1, _⟩
      exact absurd h1 (h.2 y)
theorem inSu_rd (h : isCo r s es = true) {zs : List Int} (hin : InR zs) : inSu r s es zs = true ↔ Rd es 0 (redL zs) 0 := by
 have hl := co_lim h
 obtain ⟨hg, hf⟩ := fo_gr (co_parts h).1
 have hok : okWk r s es 0 = true := by
  unfold okWk isVx
  rw [(co_parts h).1, Bool.true_and, decide_eq_true_eq]; omega
 rw [← rd_wk hg hf (redL_in hin)]
 have hw : walkB r s es 0 (redL zs) = decide ((wk es 0 (redL zs)).2 = (redL zs).length) := by unfold walkB; rw [hok, Bool.true_and]
 unfold inSu walkV
 rw [h, Bool.true_and, Bool.and_eq_true, decide_eq_true_eq]
 constructor
 · rintro ⟨h1, h2⟩
   rw [if_pos h1] at h2
   rw [hw, decide_eq_true_eq] at h1
   exact Prod.ext h2 h1
 · intro e
   have h1 : walkB r s es 0 (redL zs) = true := by rw [hw, decide_eq_true_eq, e]
   refine ⟨h1, ?_⟩
   rw [if_pos h1, e]
theorem co_fold (h : isCo r s es = true) : isGr r s es = true ∧ foldB es es.length = true := fo_gr (co_parts h).1
theorem rd_nz (hg : isGr r s es = true) : ∀ {w : List Int} {v x : Int}, Rd es v w x → ∀ l ∈ w, l ≠ 0 ∧ -3 ≤ l ∧ l ≤ 3 := by
 have hl := isGr_lim hg
 intro w
 induction w with
 | nil => intro v x _ l hl; cases hl
 | cons c w ih =>
  rintro v x ⟨y, h1, h2⟩ l hm
  have hv := (stepAt_vert hg h1).2.2
  rcases List.mem_cons.1 hm with e | hm
  · rw [e]; omega
  · exact ih h2 l hm
theorem stk_back {p : List Int} : ∀ {s : List Int}, Red s → (∀ x ∈ p, x ≠ 0 ∧ -3 ≤ x ∧ x ≤ 3) → stk s (invL p ++ p) = s := by
 induction p with
 | nil => intro s _ _; rfl
 | cons x t ih =>
  intro s hs hp
  have hx := hp x List.mem_cons_self
  have hn : ng x = -x := ng_of (by omega) (by omega)
  have e : invL (x :: t) ++ (x :: t) = invL t ++ ([ng x] ++ ([x] ++ t)) := by simp [invL]
  have hi : inv (ng x) x = true := by unfold inv; rw [decide_eq_true_eq, hn]; omega
  rw [e, stk_append, stk_append, stk_append]
  show stk (push (push (stk s (invL t)) (ng x)) x) t = s
  rw [push_push hs.stk hi, ← stk_append]
  exact ih hs (fun y hy => hp y (List.mem_cons_of_mem _ hy))
end
end Go.Proofs.YtpjlamnjiilgbaaGreat
namespace Go.Proofs.YtpjlamnjiilgbaaGreat
open Go.RowKit
set_option linter.unusedVariables false
set_option linter.unusedSimpArgs false
section
variable {r s : Int} {es : List Ed}
theorem con_has (hc : conG r s es = true) {v : Int} (hv : 0 ≤ v ∧ v < s) : Con es 0 v := by
 unfold conG at hc
 rw [Bool.and_eq_true] at hc
 obtain ⟨hg, hn⟩ := hc
 have hl := isGr_lim hg
 have hE := endsIn_of hg
 have hr : reachG r s es 0 = reachL es 0 := by
  unfold reachG
  rw [if_pos]
  rw [hg]
  exact decide_eq_true (by omega)
 rw [hr] at hn
 have hn := of_decide_eq_true hn
 have hasc : (reachL es 0).Pairwise (· < ·) := by rw [← upTo_all hE (by omega)]; exact asc_upTo _
 have hin : ∀ y ∈ reachL es 0, 0 ≤ y ∧ y < ((s.toNat : Nat) : Int) := fun y hy => by
  rw [← upTo_all hE (by omega)] at hy
  exact (mem_upTo.1 hy).2
 rw [← reach_con hE (by omega)]
 by_cases hm : v ∈ reachL es 0
 · exact hm
 · exfalso
   have hall : upTo (reachL es 0) s.toNat = reachL es 0 := asc_ext (asc_upTo _) hasc fun y => by rw [mem_upTo]; exact ⟨fun h => h.1, fun h => ⟨h, hin y h⟩⟩
   have hlt : ∀ k : Nat, v < (k : Int) → (upTo (reachL es 0) k).length + 1 ≤ k := by
    intro k
    induction k with
    | zero => intro h; omega
    | succ k ih =>
     intro h
     rw [upTo]
     by_cases hk : (k : Int) = v
     · rw [hk, if_neg hm]
       have := upTo_length (reachL es 0) k
       omega
     · have := ih (by omega)
       split
       · rw [List.length_append, List.length_singleton]; omega
       · omega
   have := hlt s.toNat (by omega)
   rw [hall] at this
   omega
theorem step_nx (hf : isFo r s es = true) {v l y : Int} (h : StepAt es v l y) : nxV es v l = y := by
 obtain ⟨hg, hb⟩ := fo_gr hf
 exact nx_at hg hb h
theorem letsN_mem {k : Nat} {l : Int} (h0 : l ≠ 0) (h : -(k : Int) ≤ l ∧ l ≤ (k : Int)) : l ∈ letsN k := by
 induction k with
 | zero => omega
 | succ k ih =>
  rw [letsN, List.mem_append]
  by_cases h1 : -(k : Int) ≤ l ∧ l ≤ (k : Int)
  · exact .inl (ih h1)
  · right
    have : l = (k : Int) + 1 ∨ l = -((k : Int) + 1) := by omega
    rcases this with e | e <;> simp [e]
theorem found_all (hf : isFo r s es = true) (hc : conG r s es = true) {v : Int} (hv : 0 ≤ v ∧ v < s) : v ∈ vts (foundA r es 0) := by
 have hl := fo_lim hf
 obtain ⟨hg, hb⟩ := fo_gr hf
 have h40 := (fo_order hf).2.2
 have hvo : vts (foundA r es 0) = coN es (letsN r.toNat) 40 := by
  have := found_order hf
  unfold coL at this
  rw [if_pos hf, List.map_map] at this
  exact this
 rw [hvo]
 have hz := coN_zero es (letsN r.toNat)
 refine con_has hc hv (fun y => y ∈ coN es (letsN r.toNat) 40) ?_ ?_
 · rw [← hz.1, List.getD_eq_getElem?_getD, List.getElem?_eq_getElem hz.2]; exact List.getElem_mem hz.2
 · intro e he
   obtain ⟨i, hi, hie⟩ := List.getElem_of_mem he
   have hat := isGr_at (by omega) hg hi
   have hge : es.getD i e0 = e := by rw [List.getD_eq_getElem?_getD, List.getElem?_eq_getElem hi, hie]; rfl
   rw [hge] at hat
   have hs1 : StepAt es e.1 e.2.1 e.2.2 := step_iff.2 (.inl he)
   have hs2 : StepAt es e.2.2 (-e.2.1) e.1 := step_back hs1
   have h1 := step_nx hf hs1
   have h2 := step_nx hf hs2
   constructor
   · intro hm
     obtain ⟨j, hj, hje⟩ := List.getElem_of_mem hm
     have hjd : (coN es (letsN r.toNat) 40).getD j 0 = e.1 := by rw [List.getD_eq_getElem?_getD, List.getElem?_eq_getElem hj, hje]; rfl
     have := coN_closed (s := 0) (l := e.2.1) h40 hj (letsN_mem (by omega) (by omega)) (by rw [hjd, h1]; omega)
     rw [hjd, h1] at this
     exact this
   · intro hm
     obtain ⟨j, hj, hje⟩ := List.getElem_of_mem hm
     have hjd : (coN es (letsN r.toNat) 40).getD j 0 = e.2.2 := by rw [List.getD_eq_getElem?_getD, List.getElem?_eq_getElem hj, hje]; rfl
     have := coN_closed (s := 0) (l := -e.2.1) h40 hj (letsN_mem (by omega) (by omega)) (by rw [hjd, h2]; omega)
     rw [hjd, h2] at this
     exact this
theorem arr_step (hf : isFo r s es = true) (u : Int) (ls : List Int) (hl : ∀ l ∈ ls, -3 ≤ l ∧ l ≤ 3) : ∀ k, ∀ j, 0 < j → j < (arrN es ls u k).length → ∃ b : Nat, ((arrN es ls u k).getD j d0).1.2.2 = (b : Int) ∧ StepAt es ((arrN es ls u k).getD b d0).1.1 ((arrN es ls u k).getD j d0).1.2.1 ((arrN es ls u k).getD j d0).1.1 ∧ b < j := by
 obtain ⟨hg, hb⟩ := fo_gr hf
 have h1 : ∀ (i : Nat) (l : Int) (S : List Ar), (-3 ≤ l ∧ l ≤ 3) → i < S.length → (∀ j, 0 < j → j < S.length → ∃ b : Nat, (S.getD j d0).1.2.2 = (b : Int) ∧ StepAt es (S.getD b d0).1.1 (S.getD j d0).1.2.1 (S.getD j d0).1.1 ∧ b < j) →
  (∀ j, 0 < j → j < (arr1 es i S l).length → ∃ b : Nat, ((arr1 es i S l).getD j d0).1.2.2 = (b : Int) ∧ StepAt es ((arr1 es i S l).getD b d0).1.1 ((arr1 es i S l).getD j d0).1.2.1 ((arr1 es i S l).getD j d0).1.1 ∧ b < j) := by
  intro i l S hl3 hi hS
  unfold arr1
  split
  case isFalse => exact hS
  case isTrue hc =>
   intro j h0 hj
   rw [List.length_append, List.length_singleton] at hj
   by_cases hjl : j < S.length
   · obtain ⟨b, q1, q2, q3⟩ := hS j h0 hjl
     exact ⟨b, by rw [getD_left hjl]; exact q1, by rw [getD_left hjl, getD_left (by omega)]; exact q2, q3⟩
   · obtain rfl : j = S.length := by omega
     refine ⟨i, by rw [getD_last], ?_, hi⟩
     rw [getD_last, getD_left hi]
     rcases nx_cases hg hb (v := (S.getD i d0).1.1) (l := l) (by omega) with h | h
     · exact h.1
     · omega
 have h2 : ∀ (ls : List Int) (i : Nat) (S : List Ar), (∀ l ∈ ls, -3 ≤ l ∧ l ≤ 3) → i < S.length → (∀ j, 0 < j → j < S.length → ∃ b : Nat, (S.getD j d0).1.2.2 = (b : Int) ∧ StepAt es (S.getD b d0).1.1 (S.getD j d0).1.2.1 (S.getD j d0).1.1 ∧ b < j) →
  (∀ j, 0 < j → j < (ls.foldl (arr1 es i) S).length → ∃ b : Nat, ((ls.foldl (arr1 es i) S).getD j d0).1.2.2 = (b : Int) ∧ StepAt es ((ls.foldl (arr1 es i) S).getD b d0).1.1 ((ls.foldl (arr1 es i) S).getD j d0).1.2.1 ((ls.foldl (arr1 es i) S).getD j d0).1.1 ∧ b < j) := by
  intro ls
  induction ls with
  | nil => intro i S _ _ h; exact h
  | cons l ls ih =>
   intro i S hl hi hS
   exact ih i _ (fun l' h' => hl l' (List.mem_cons_of_mem _ h')) (Nat.lt_of_lt_of_le hi (arr1_le es i S l)) (h1 i l S (hl l List.mem_cons_self) hi hS)
 intro k
 induction k with
 | zero => intro j h0 hj; simp [arrN] at hj; omega
 | succ k ih =>
  rw [arrN]
  split
  · rename_i hlt; exact h2 ls k _ hl hlt ih
  · exact ih
theorem found_step (hf : isFo r s es = true) {j : Nat} (h0 : 0 < j) (hj : j < (foundA r es 0).length) : ∃ b : Nat, ((foundA r es 0).getD j d0).1.2.2 = (b : Int) ∧ StepAt es ((foundA r es 0).getD b d0).1.1 ((foundA r es 0).getD j d0).1.2.1 ((foundA r es 0).getD j d0).1.1 ∧ b < j := by
 have hl := fo_lim hf
 have key := fun k => arr_step hf 0 (letsN r.toNat) (fun l h => by have := letsN_in _ l h; omega) k
 unfold foundA at hj ⊢
 exact key 41 j h0 hj
theorem eB_mem {u l y : Int} (h : StepAt es u l y) (hl : l ≠ 0) (hg : isGr r s es = true) : eB u l y ∈ es := by
 have hv := stepAt_vert hg h
 have hgl := isGr_lim hg
 rcases step_iff.1 h with h1 | h1
 · have h2 : ¬ l < 0 := by
    obtain ⟨i, hi, hie⟩ := List.getElem_of_mem h1
    have hat := isGr_at (by omega) hg hi
    rw [List.getD_eq_getElem?_getD, List.getElem?_eq_getElem hi, hie] at hat
    simp at hat
    omega
   unfold eB; rw [if_neg h2]; exact h1
 · have h2 : l < 0 := by
    obtain ⟨i, hi, hie⟩ := List.getElem_of_mem h1
    have hat := isGr_at (by omega) hg hi
    rw [List.getD_eq_getElem?_getD, List.getElem?_eq_getElem hi, hie] at hat
    simp at hat
    omega
   unfold eB; rw [if_pos h2]; exact h1
theorem asc_nodup {L : List Ed} (h : AscE L) : L.Nodup := by
 rw [List.nodup_iff_pairwise_ne]
 refine h.imp fun hab e => ?_
 rw [e, cmpE_self] at hab
 omega
theorem rd_gen {m : Nat} {S : List Ar} (hgood : GoodA m 0 S) (hst : ∀ j, 0 < j → j < S.length → ∃ b : Nat, (S.getD j d0).1.2.2 = (b : Int) ∧ StepAt es (S.getD b d0).1.1 (S.getD j d0).1.2.1 (S.getD j d0).1.1 ∧ b < j) : ∀ n j, j ≤ n → j < S.length → Rd es 0 (S.getD j d0).2 (S.getD j d0).1.1 := by
 intro n
 induction n with
 | zero =>
  intro j hj _
  obtain rfl : j = 0 := by omega
  rw [hgood.zero]
  exact (rfl : (0 : Int) = 0)
 | succ n ih =>
  intro j hj hjl
  rcases Nat.eq_zero_or_pos j with h0 | h0
  · subst h0
    rw [hgood.zero]
    exact (rfl : (0 : Int) = 0)
  · obtain ⟨b, hb1, h1, h2⟩ := hgood.back j h0 hjl
    obtain ⟨b', h3, h4, h5⟩ := hst j h0 hjl
    have hbb : b' = b := by rw [h1] at h3; omega
    subst hbb
    rw [h2]
    exact rd_append.2 ⟨_, ih b' (by omega) (by omega), rd_one.2 h4⟩
theorem wdA_rd {m : Nat} {S : List Ar} (hgood : GoodA m 0 S) (hst : ∀ j, 0 < j → j < S.length → ∃ b : Nat, (S.getD j d0).1.2.2 = (b : Int) ∧ StepAt es (S.getD b d0).1.1 (S.getD j d0).1.2.1 (S.getD j d0).1.1 ∧ b < j) {v : Int} (hin : v ∈ vts S) : Rd es 0 (wdA S v) v := by
 unfold wdA
 rw [if_pos hin]
 have hp := placeA_lt hin
 have := rd_gen hgood hst _ _ (Nat.le_refl _) hp.1
 rw [hp.2] at this
 exact this
end
end Go.Proofs.YtpjlamnjiilgbaaGreat
namespace Go.Proofs.YtpjlamnjiilgbaaGreat
open Go.RowKit
set_option linter.unusedVariables false
set_option linter.unusedSimpArgs false
def baL (r s : Int) (es : List Ed) : List (List Int) := if isCo r s es = true then (exE r s es).map (loL r s es) else []
def Lt (p : List Int) : Prop := ∀ x ∈ p, x ≠ 0 ∧ -3 ≤ x ∧ x ≤ 3
theorem Lt.in_ {p : List Int} (h : Lt p) : InR p := fun x hx => by have := h x hx; omega
theorem Lt.append {p q : List Int} (h : Lt p) (h2 : Lt q) : Lt (p ++ q) := fun x hx => by
 rcases List.mem_append.1 hx with h' | h'
 · exact h x h'
 · exact h2 x h'
theorem Lt.left {p q : List Int} (h : Lt (p ++ q)) : Lt p := fun x hx => h x (List.mem_append_left _ hx)
theorem Lt.right {p q : List Int} (h : Lt (p ++ q)) : Lt q := fun x hx => h x (List.mem_append_right _ hx)
theorem Lt.one {l : Int} (h : l ≠ 0 ∧ -3 ≤ l ∧ l ≤ 3) : Lt [l] := fun x hx => by rw [List.mem_singleton] at hx; rw [hx]; exact h
theorem Lt.inv {p : List Int} (h : Lt p) : Lt (invL p) := by
 intro x hx
 obtain ⟨y, hy, rfl⟩ := List.mem_map.1 (List.mem_reverse.1 hx)
 have hy' := h y hy
 have hn : ng y = -y := ng_of (by omega) (by omega)
 rw [hn]; omega
theorem stk_forth {p s : List Int} (hs : Red s) (hp : Lt p) : stk s (p ++ invL p) = s := by
 have h := stk_back (p := invL p) hs hp.inv
 rw [invL_invL hp.in_] at h
 exact h
theorem stk_bf {p s q : List Int} (hs : Red s) (hp : Lt p) : stk s (invL p ++ (p ++ q)) = stk s q := by
 rw [← List.append_assoc, stk_append, stk_back hs hp]
theorem stk_flip {s : List Int} (hs : Red s) {l : Int} (hl : l ≠ 0) : push (push s (-l)) l = s :=
 push_push hs (by unfold inv; rw [decide_eq_true_eq]; omega)
theorem redL_of_red {z : List Int} (hin : InR z) (h : Red z) : redL z = z := by
 rw [redL_stk hin]
 have := stk_of_red (s := z) (t := []) (by rw [List.append_nil]; exact h.reverse)
 rw [this, List.append_nil, List.reverse_reverse]
theorem red_redL {z : List Int} (hin : InR z) : Red (redL z) := by
 rw [redL_stk hin]
 exact (Red.stk Red.nil).reverse
theorem Red.left {a b : List Int} (h : Red (a ++ b)) : Red a := fun p x y q e => h p x y (q ++ b) (by rw [e]; simp)
theorem Red.right {a b : List Int} (h : Red (a ++ b)) : Red b := fun p x y q e => h (a ++ p) x y q (by rw [e]; simp)
structure TrS (es : List Ed) (s : Int) (S : List Ar) : Prop where
 good : GoodA s.toNat 0 S
 nd : (vts S).Nodup
 st : ∀ j, 0 < j → j < S.length → ∃ b : Nat, (S.getD j d0).1.2.2 = (b : Int) ∧ StepAt es (S.getD b d0).1.1 (S.getD j d0).1.2.1 (S.getD j d0).1.1 ∧ b < j
 all : ∀ v, 0 ≤ v → v < s → v ∈ vts S
theorem co_con {r s : Int} {es : List Ed} (h : isCo r s es = true) : conG r s es = true := by
 obtain ⟨hf, hlf, _⟩ := co_parts h
 have hg := (fo_gr hf).1
 have h1 := tm_con hg
 rw [(tm_id hg hlf).1, (tm_id hg hlf).2] at h1
 exact h1
theorem co_trS {r s : Int} {es : List Ed} (h : isCo r s es = true) : TrS es s (foundA r es 0) := by
 have hf := (co_parts h).1
 have hl := fo_lim hf
 exact ⟨foundA_good hf (by omega), nd_arrN _ _ _ _, fun j h0 hj => found_step hf h0 hj, fun v h0 h1 => found_all hf (co_con h) ⟨h0, h1⟩⟩
section
variable {r s : Int} {es : List Ed} {S : List Ar}
theorem TrS.at_ (h : TrS es s S) {j : Nat} (hj : j < S.length) : wdA S (S.getD j d0).1.1 = (S.getD j d0).2 := by
 have hm : (S.getD j d0).1.1 ∈ vts S := mem_vts.2 ⟨j, hj, rfl⟩
 unfold wdA
 rw [if_pos hm]
 have hp := placeA_lt hm
 rw [vts_inj h.nd hp.1 hj hp.2]
theorem TrS.zero (h : TrS es s S) : wdA S 0 = [] := by
 have := h.at_ h.good.pos
 rw [h.good.zero] at this
 exact this
theorem TrS.edge (h : TrS es s S) {j : Nat} (h0 : 0 < j) (hj : j < S.length) : ∃ u l y, eA S j = eB u l y ∧ StepAt es u l y ∧ wdA S y = wdA S u ++ [l] ∧ y = (S.getD j d0).1.1 := by
 obtain ⟨b, h1, h2, h3⟩ := h.st j h0 hj
 obtain ⟨b', q1, q2, q3⟩ := h.good.back j h0 hj
 have hb : b' = b := by rw [q2] at h1; omega
 subst hb
 refine ⟨_, _, _, by unfold eA; rw [h1, Int.toNat_natCast], h2, ?_, rfl⟩
 rw [h.at_ hj, h.at_ (by omega), q3]
theorem TrS.step (h : TrS es s S) {v l y : Int} (hm : eB v l y ∈ trA S) : wdA S y = wdA S v ++ [l] ∨ wdA S v = wdA S y ++ [-l] := by
 unfold trA at hm
 obtain ⟨j, hj, he⟩ := List.mem_map.1 hm
 have hjl := List.mem_range.1 hj
 obtain ⟨u, l', y', e1, hs, hw, _⟩ := h.edge (j := j + 1) (by omega) (by omega)
 rw [e1] at he
 unfold eB at he
 by_cases c1 : l' < 0
 · by_cases c2 : l < 0
   · rw [if_pos c1, if_pos c2] at he
     simp only [Prod.mk.injEq] at he
     obtain ⟨a1, a2, a3⟩ := he
     have hll : l' = l := by omega
     rw [← a1, ← a3, ← hll]; exact .inl hw
   · rw [if_pos c1, if_neg c2] at he
     simp only [Prod.mk.injEq] at he
     obtain ⟨a1, a2, a3⟩ := he
     have hll : l' = -l := by omega
     rw [← a1, ← a3, ← hll]; exact .inr hw
 · by_cases c2 : l < 0
   · rw [if_neg c1, if_pos c2] at he
     simp only [Prod.mk.injEq] at he
     obtain ⟨a1, a2, a3⟩ := he
     rw [← a1, ← a3, ← a2]; exact .inr hw
   · rw [if_neg c1, if_neg c2] at he
     simp only [Prod.mk.injEq] at he
     obtain ⟨a1, a2, a3⟩ := he
     rw [← a1, ← a3, ← a2]; exact .inl hw
theorem TrS.lt (h : TrS es s S) (hg : isGr r s es = true) (v : Int) : Lt (wdA S v) := by
 by_cases hm : v ∈ vts S
 · exact fun x hx => rd_nz hg (wdA_rd h.good h.st hm) x hx
 · unfold wdA; rw [if_neg hm]; intro x hx; cases hx
theorem TrS.tree (h : TrS es s S) (hg : isGr r s es = true) {v l y : Int} (hl : l ≠ 0 ∧ -3 ≤ l ∧ l ≤ 3) (hm : eB v l y ∈ trA S) {st : List Int} (hst : Red st) : stk st (wdA S v ++ ([l] ++ invL (wdA S y))) = st := by
 rcases h.step hm with e | e
 · rw [← List.append_assoc, ← e]
   exact stk_forth hst (h.lt hg y)
 · have hw := h.lt hg y
   rw [e, List.append_assoc, stk_append, stk_append, stk_append]
   show stk (push (push (stk st (wdA S y)) (-l)) l) (invL (wdA S y)) = st
   rw [stk_flip hst.stk hl.1, ← stk_append]
   exact stk_forth hst hw
end
def sgK (l : Int) (k : Nat) : Int := if 0 < l then (k : Int) + 1 else -((k : Int) + 1)
def nuT (X : List Ed) (v l y : Int) : Nat → List Int
 | 0 => []
 | k + 1 => if X.getD k e0 = eB v l y then nuT X v l y k ++ [sgK l k] else nuT X v l y k
def nuE (X : List Ed) (v l y : Int) : List Int := nuT X v l y X.length
def rwN (X es : List Ed) : Int → List Int → List Int
 | _, [] => []
 | v, l :: w => nuE X v l (nxV es v l) ++ rwN X es (nxV es v l) w
theorem nuT_none {X : List Ed} {v l y : Int} : ∀ k, (∀ j, j < k → X.getD j e0 ≠ eB v l y) → nuT X v l y k = [] := by
 intro k
 induction k with
 | zero => intro _; rfl
 | succ k ih =>
  intro h
  rw [nuT, if_neg (h k (by omega))]
  exact ih fun j hj => h j (by omega)
theorem getE_in {X : List Ed} {i : Nat} (h : i < X.length) : X.getD i e0 = X[i] := by rw [List.getD_eq_getElem?_getD, List.getElem?_eq_getElem h]; rfl
theorem nd_getD {X : List Ed} (hn : X.Nodup) {i j : Nat} (hi : i < X.length) (hj : j < X.length) (e : X.getD i e0 = X.getD j e0) : i = j := by
 rw [getE_in hi, getE_in hj] at e
 exact (List.getElem_inj hn).1 e
theorem nuT_one {X : List Ed} (hn : X.Nodup) {v l y : Int} {i : Nat} (hX : X.getD i e0 = eB v l y) : ∀ k, i < k → k ≤ X.length → nuT X v l y k = [sgK l i] := by
 intro k
 induction k with
 | zero => intro h; omega
 | succ k ih =>
  intro hi hk
  rw [nuT]
  by_cases e : i = k
  · subst e
    rw [if_pos hX, nuT_none i fun j hj q => by have := nd_getD hn (by omega) (by omega) (q.trans hX.symm); omega]
    rfl
  · rw [if_neg fun q => by have := nd_getD hn (by omega) (by omega) (q.trans hX.symm); omega]
    exact ih (by omega) (by omega)
theorem nuE_cases {X : List Ed} (hn : X.Nodup) (v l y : Int) : (eB v l y ∉ X ∧ nuE X v l y = []) ∨ ∃ i, i < X.length ∧ X.getD i e0 = eB v l y ∧ nuE X v l y = [sgK l i] := by
 by_cases h : eB v l y ∈ X
 · obtain ⟨i, hi, e⟩ := List.getElem_of_mem h
   have hX : X.getD i e0 = eB v l y := by rw [getE_in hi, e]
   exact .inr ⟨i, hi, hX, nuT_one hn hX _ hi (Nat.le_refl _)⟩
 · refine .inl ⟨h, nuT_none _ fun j hj e => h ?_⟩
   rw [← e, getE_in hj]
   exact List.getElem_mem hj
theorem nuT_len (X : List Ed) (v l y : Int) : ∀ k, (nuT X v l y k).length ≤ k := by
 intro k
 induction k with
 | zero => exact Nat.le_refl _
 | succ k ih =>
  rw [nuT]
  split
  · rw [List.length_append, List.length_singleton]; omega
  · omega
theorem nuE_len {X : List Ed} (hn : X.Nodup) (v l y : Int) : (nuE X v l y).length ≤ 1 := by
 rcases nuE_cases hn v l y with h | ⟨i, _, _, h⟩
 · rw [h.2]; simp
 · rw [h]; simp
theorem rwN_len {X es : List Ed} (hn : X.Nodup) : ∀ (w : List Int) (v : Int), (rwN X es v w).length ≤ w.length := by
 intro w
 induction w with
 | nil => intro v; exact Nat.le_refl _
 | cons l w ih =>
  intro v
  have h1 := nuE_len hn v l (nxV es v l)
  have h2 := ih (nxV es v l)
  rw [rwN, List.length_append, List.length_cons]; omega
theorem sgK_in {X : List Ed} (hX : X.length ≤ 120) {l : Int} {i : Nat} (hi : i < X.length) : (-120 ≤ sgK l i ∧ sgK l i ≤ 120) ∧ sgK l i ≠ 0 := by
 unfold sgK
 split <;> omega
theorem rwN_in {X es : List Ed} (hn : X.Nodup) (hX : X.length ≤ 120) : ∀ (w : List Int) (v : Int), ∀ x ∈ rwN X es v w, (-120 ≤ x ∧ x ≤ 120) ∧ x ≠ 0 := by
 intro w
 induction w with
 | nil => intro v x hx; cases hx
 | cons l w ih =>
  intro v x hx
  rw [rwN, List.mem_append] at hx
  rcases hx with hx | hx
  · rcases nuE_cases hn v l (nxV es v l) with h | ⟨i, hi, _, h⟩
    · rw [h.2] at hx; cases hx
    · rw [h, List.mem_singleton] at hx
      rw [hx]; exact sgK_in hX hi
  · exact ih _ x hx
theorem inv_sg {l l' : Int} {i i' : Nat} (h : inv (sgK l i) (sgK l' i') = true) : i = i' ∧ (0 < l ↔ ¬ 0 < l') := by
 have := (inv_eq h).1
 unfold sgK at this
 split at this <;> split at this <;> constructor <;> omega
theorem eB_flip {v l y v' l' y' : Int} (hl : l ≠ 0) (hl' : l' ≠ 0) (hs : 0 < l ↔ ¬ 0 < l') (h : eB v l y = eB v' l' y') : v' = y ∧ l' = -l ∧ y' = v := by
 unfold eB at h
 by_cases c : l < 0
 · rw [if_pos c, if_neg (by omega)] at h
   simp only [Prod.mk.injEq] at h
   omega
 · rw [if_neg c, if_pos (by omega)] at h
   simp only [Prod.mk.injEq] at h
   omega
def facL (B : List (List Int)) (k : Int) : List Int := if 1 ≤ k ∧ k ≤ (B.length : Int) then B.getD (k - 1).toNat [] else if k < 0 ∧ -(B.length : Int) ≤ k then invL (B.getD (-k - 1).toNat []) else []
def facs (B : List (List Int)) (ns : List Int) : List Int := (ns.map (facL B)).flatten
theorem facs_append (B : List (List Int)) (a b : List Int) : facs B (a ++ b) = facs B a ++ facs B b := by unfold facs; rw [List.map_append, List.flatten_append]
theorem facs_one (B : List (List Int)) (k : Int) : facs B [k] = facL B k := by unfold facs; simp
theorem exE_nd {r s : Int} {es : List Ed} (hf : isFo r s es = true) : (exE r s es).Nodup := by
 unfold exE
 rw [if_pos hf]
 exact (asc_nodup (asc_of_gr (fo_gr hf).1)).filter _
theorem exE_mem {r s : Int} {es : List Ed} (hf : isFo r s es = true) {e : Ed} : e ∈ exE r s es ↔ e ∈ es ∧ e ∉ trA (foundA r es 0) := by
 obtain ⟨_, g2⟩ := putAll_spec (trA (foundA r es 0)) [] (List.Pairwise.nil)
 have hT : trE r s es = putAll [] (trA (foundA r es 0)) := by unfold trE; rw [if_pos hf]
 unfold exE
 rw [if_pos hf, List.mem_filter, decide_eq_true_eq, hT, g2]
 simp
section
variable {r s : Int} {es : List Ed}
theorem loL_wd (h : isFo r s es = true) {e : Ed} (he : e ∈ es) : loL r s es e = redL (wdA (foundA r es 0) e.1 ++ [e.2.1] ++ invL (wdA (foundA r es 0) e.2.2)) := by
 unfold loL mulL
 rw [if_pos ⟨h, he⟩, path_wd h, path_wd h]
theorem baL_fac (h : isCo r s es = true) {l v y : Int} (hl : l ≠ 0 ∧ -3 ≤ l ∧ l ≤ 3) {i : Nat} (hi : i < (exE r s es).length) (hX : (exE r s es).getD i e0 = eB v l y) {st : List Int} (hst : Red st) :
 stk st (facL (baL r s es) (sgK l i)) = stk st (wdA (foundA r es 0) v ++ ([l] ++ invL (wdA (foundA r es 0) y))) := by
 have hf := (co_parts h).1
 have hg := (fo_gr hf).1
 have hT := co_trS h
 have hB : baL r s es = (exE r s es).map (loL r s es) := by unfold baL; rw [if_pos h]
 have hBl : (baL r s es).length = (exE r s es).length := by rw [hB, List.length_map]
 have hat : (baL r s es).getD i [] = loL r s es (eB v l y) := by
  rw [hB, List.getD_eq_getElem?_getD, List.getElem?_map, List.getElem?_eq_getElem hi]
  rw [getE_in hi] at hX
  rw [hX]; rfl
 have hmem : eB v l y ∈ es := by
  have : eB v l y ∈ exE r s es := by rw [← hX, getE_in hi]; exact List.getElem_mem hi
  exact ((exE_mem hf).1 this).1
 rw [loL_wd hf hmem] at hat
 generalize foundA r es 0 = S at hT hat ⊢
 have hv := hT.lt hg v
 have hy := hT.lt hg y
 by_cases c : 0 < l
 · have hs : sgK l i = (i : Int) + 1 := by unfold sgK; rw [if_pos c]
   have hE : eB v l y = (v, l, y) := by unfold eB; rw [if_neg (by omega)]
   rw [hE] at hat
   simp only at hat
   have hF : facL (baL r s es) ((i : Int) + 1) = (baL r s es).getD i [] := by
    unfold facL
    rw [if_pos (by omega)]
    congr 1
    omega
   rw [hs, hF, hat, redL_stk ((hv.append (Lt.one hl)).append hy.inv).in_, stk_red _ hst, List.append_assoc]
 · have hs : sgK l i = -((i : Int) + 1) := by unfold sgK; rw [if_neg c]
   have hE : eB v l y = (y, -l, v) := by unfold eB; rw [if_pos (by omega)]
   rw [hE] at hat
   simp only at hat
   have hF : facL (baL r s es) (-((i : Int) + 1)) = invL ((baL r s es).getD i []) := by
    unfold facL
    rw [if_neg (by omega), if_pos (by omega)]
    congr 2
    omega
   have hl2 : Lt [-l] := Lt.one (by omega)
   have hn : ng (-l) = l := by rw [ng_of (by omega) (by omega)]; omega
   have hL := (hy.append hl2).append hv.inv
   have e2 : invL (wdA S y ++ [-l] ++ invL (wdA S v)) = wdA S v ++ ([l] ++ invL (wdA S y)) := by
    rw [invL_append, invL_append, invL_invL hv.in_]
    show wdA S v ++ ([ng (-l)] ++ invL (wdA S y)) = _
    rw [hn]
   rw [hs, hF, hat, invL_redL hL.in_, e2, redL_stk (hv.append ((Lt.one hl).append hy.inv)).in_, stk_red _ hst]
theorem step_fac (h : isCo r s es = true) {v l y : Int} (hS : StepAt es v l y) {st : List Int} (hst : Red st) :
 stk st (facs (baL r s es) (nuE (exE r s es) v l y)) = stk st (wdA (foundA r es 0) v ++ ([l] ++ invL (wdA (foundA r es 0) y))) := by
 have hf := (co_parts h).1
 obtain ⟨hg, hb⟩ := fo_gr hf
 have hlim := isGr_lim hg
 have hv := (stepAt_vert hg hS).2.2
 have hl : l ≠ 0 ∧ -3 ≤ l ∧ l ≤ 3 := by omega
 have hT := co_trS h
 rcases nuE_cases (exE_nd hf) v l y with ⟨h1, h2⟩ | ⟨i, hi, hX, h2⟩
 · rw [h2, hT.tree hg hl (by
    have hes := eB_mem hS hl.1 hg
    rw [exE_mem hf] at h1
    by_cases q : eB v l y ∈ trA (foundA r es 0)
    · exact q
    · exact absurd ⟨hes, q⟩ h1) hst]
   rfl
 · rw [h2, facs_one]
   exact baL_fac h hl hi hX hst
theorem walk_fac (h : isCo r s es = true) : ∀ {w : List Int} {v x : Int}, Rd es v w x → ∀ {st : List Int}, Red st →
 stk st (facs (baL r s es) (rwN (exE r s es) es v w)) = stk st (wdA (foundA r es 0) v ++ (w ++ invL (wdA (foundA r es 0) x))) := by
 have hf := (co_parts h).1
 obtain ⟨hg, hb⟩ := fo_gr hf
 have hT := co_trS h
 intro w
 induction w with
 | nil =>
  intro v x hR st hst
  have hvx : v = x := hR
  rw [← hvx]
  generalize foundA r es 0 = S at hT ⊢
  exact (stk_forth hst (hT.lt hg v)).symm
 | cons l w ih =>
  rintro v x ⟨y, h1, h2⟩ st hst
  have hy := hT.lt hg y
  rw [rwN, nx_at hg hb h1, facs_append, stk_append, ih h2 hst.stk, step_fac h h1 hst, ← stk_append]
  generalize foundA r es 0 = S at hy ⊢
  have e : wdA S v ++ ([l] ++ invL (wdA S y)) ++ (wdA S y ++ (w ++ invL (wdA S x))) = (wdA S v ++ [l]) ++ (invL (wdA S y) ++ (wdA S y ++ (w ++ invL (wdA S x)))) := by simp
  have e2 : wdA S v ++ (l :: w ++ invL (wdA S x)) = (wdA S v ++ [l]) ++ (w ++ invL (wdA S x)) := by simp
  rw [e, e2, stk_append, stk_append st (wdA S v ++ [l]), stk_bf hst.stk hy]
theorem tree_walk (h : isCo r s es = true) {w : List Int} {v : Int} (hR : Rd es v w v) (h0 : rwN (exE r s es) es v w = []) : stk [] w = [] := by
 have hg := (co_fold h).1
 have hT := co_trS h
 have hk := fun {st : List Int} (hst : Red st) => walk_fac h hR hst
 rw [h0] at hk
 generalize foundA r es 0 = S at hT hk
 have hv := hT.lt hg v
 have h1 : stk [] (invL (wdA S v) ++ ((wdA S v ++ (w ++ invL (wdA S v))) ++ wdA S v)) = [] := by
  rw [stk_append, stk_append, ← hk (Red.stk Red.nil)]
  show stk (stk [] (invL (wdA S v))) (wdA S v) = []
  rw [← stk_append]
  exact stk_back Red.nil hv
 have e : invL (wdA S v) ++ ((wdA S v ++ (w ++ invL (wdA S v))) ++ wdA S v) = invL (wdA S v) ++ (wdA S v ++ (w ++ (invL (wdA S v) ++ wdA S v))) := by simp
 rw [e, stk_bf Red.nil hv, stk_append, stk_back (Red.stk Red.nil) hv] at h1
 exact h1
theorem rw_first {X : List Ed} (hn : X.Nodup) (hg : isGr r s es = true) (hf : foldB es es.length = true) : ∀ {w : List Int} {v x n : Int} {t : List Int}, Rd es v w x → rwN X es v w = n :: t →
 ∃ m l q y z i, w = m ++ l :: q ∧ rwN X es v m = [] ∧ Rd es v m y ∧ StepAt es y l z ∧ i < X.length ∧ X.getD i e0 = eB y l z ∧ n = sgK l i := by
 intro w
 induction w with
 | nil => intro v x n t _ h; cases h
 | cons l w ih =>
  rintro v x n t ⟨y, h1, h2⟩ h
  rw [rwN, nx_at hg hf h1] at h
  rcases nuE_cases hn v l y with ⟨_, e⟩ | ⟨i, hi, hX, e⟩
  · rw [e, List.nil_append] at h
    obtain ⟨m, l', q, y', z, i, q1, q2, q3, q4, q5, q6, q7⟩ := ih h2 h
    refine ⟨l :: m, l', q, y', z, i, by rw [q1]; rfl, ?_, ⟨y, h1, q3⟩, q4, q5, q6, q7⟩
    rw [rwN, nx_at hg hf h1, e, q2]; rfl
  · rw [e] at h
    simp only [List.singleton_append, List.cons.injEq] at h
    exact ⟨[], l, w, v, y, i, rfl, rfl, rfl, h1, hi, hX, h.1.symm⟩
theorem rw_red (h : isCo r s es = true) : ∀ {w : List Int} {v x : Int}, Rd es v w x → Red w → Red (rwN (exE r s es) es v w) := by
 have hf := (co_parts h).1
 obtain ⟨hg, hb⟩ := fo_gr hf
 have hlim := isGr_lim hg
 have hn := exE_nd hf
 intro w
 induction w with
 | nil => intro v x _ _; exact Red.nil
 | cons l w ih =>
  rintro v x ⟨y, h1, h2⟩ hr
  have h3 := ih h2 hr.tail
  rw [rwN, nx_at hg hb h1]
  rcases nuE_cases hn v l y with ⟨_, e⟩ | ⟨i, hi, hX, e⟩
  · rw [e]; exact h3
  · rw [e]
    refine h3.cons fun n t ht => ?_
    obtain ⟨m, l', q, y', z, i', q1, q2, q3, q4, q5, q6, q7⟩ := rw_first hn hg hb h2 ht
    cases hi2 : inv (sgK l i) n with
    | false => rfl
    | true =>
     exfalso
     rw [q7] at hi2
     obtain ⟨g1, g2⟩ := inv_sg hi2
     rw [← g1, hX] at q6
     have hv1 := (stepAt_vert hg h1).2.2
     have hv2 := (stepAt_vert hg q4).2.2
     obtain ⟨e1, e2, e3⟩ := eB_flip (by omega) (by omega) g2 q6
     rw [e1] at q3
     have h4 := tree_walk h q3 q2
     have h5 : Red m := by
      have := hr.tail
      rw [q1] at this
      exact this.left
     have h6 := stk_of_red (s := m) (t := []) (by rw [List.append_nil]; exact h5.reverse)
     rw [h4, List.append_nil] at h6
     have h7 : m = [] := by simpa using h6.symm
     rw [q1, h7, List.nil_append, e2] at hr
     have h8 := hr [] l (-l) q rfl
     unfold inv at h8
     rw [decide_eq_false_iff_not] at h8
     omega
theorem rw_redL (h : isCo r s es = true) {w : List Int} {v x : Int} (hR : Rd es v w x) (hw : Red w) : redL (rwN (exE r s es) es v w) = rwN (exE r s es) es v w := by
 have hf := (co_parts h).1
 refine redL_of_red (fun y hy => ?_) (rw_red h hR hw)
 have := rwN_in (exE_nd hf) (exE_length r s es) w v y hy
 omega
end
end Go.Proofs.YtpjlamnjiilgbaaGreat
namespace Go.Proofs.YtpjlamnjiilgbaaGreat
open Go.RowKit
set_option linter.unusedVariables false
set_option linter.unusedSimpArgs false
def GrW (w : World) (lo : Nat) (v : Value) (us : List Value) (zss : List (List Int)) : Prop :=
 OwnsW w lo v us ∧ us.length = zss.length ∧ (∀ i, i < us.length → RowI w lo w.heap.size (us.getD i undef) (zss.getD i []) ∧ ∀ b, (us.getD i undef).ownBlock = some b → v.ownBlock ≠ some b) ∧
 ∀ i j b c, i < j → j < us.length → (us.getD i undef).ownBlock = some b → (us.getD j undef).ownBlock = some c → b < c
theorem rowI_lt2 {w : World} {lo hi : Nat} {v : Value} {zs : List Int} (h : RowI w lo hi v zs) : ∀ b, v.ownBlock = some b → lo ≤ b ∧ b < hi := fun b hb => by
 rcases h.block with ⟨e1, _⟩ | ⟨c, e1, e2, e3, _⟩
 · rw [e1] at hb; cases hb
 · rw [e1] at hb; cases hb; exact ⟨e2, e3⟩
theorem rowI_keep2 {w w' : World} {lo hi hi' : Nat} {v : Value} {zs : List Int} (h : RowI w lo hi v zs) (hsz : hi ≤ hi') (hb : ∀ b, v.ownBlock = some b → b < hi → w'.heap[b]? = w.heap[b]?) : RowI w' lo hi' v zs := by
 rcases h.block with ⟨e1, e2⟩ | ⟨c, e1, e2, e3, e4⟩
 · rw [e1, e2]; exact ⟨by simp, .inl ⟨rfl, rfl⟩⟩
 · exact (e4.keep fun k q1 q2 => by
    obtain rfl : k = c := by omega
    exact hb k e1 e3).wide e2 (by omega)
theorem GrW.lt {w : World} {lo : Nat} {v : Value} {us : List Value} {zss : List (List Int)} (h : GrW w lo v us zss) : (∀ b, v.ownBlock = some b → b < w.heap.size) ∧ ∀ i, i < us.length → ∀ b, (us.getD i undef).ownBlock = some b → b < w.heap.size :=
 ⟨fun b hb => (World.ownsRow.lt h.1 b hb).2, fun i hi b hb => (rowI_lt2 (h.2.2.1 i hi).1 b hb).2⟩
theorem GrW.below {w w' : World} {lo : Nat} {v : Value} {us : List Value} {zss : List (List Int)} (h : GrW w lo v us zss) (hb : Below w.heap.size w w') : GrW w' lo v us zss :=
 ⟨OwnsW.other h.1 fun k hk => hb.block k (h.lt.1 k hk), h.2.1, fun i hi => ⟨rowI_keep2 (h.2.2.1 i hi).1 hb.size fun b hb' hlt => hb.block b hlt, (h.2.2.1 i hi).2⟩, h.2.2.2⟩
theorem GrW.lit (w : World) : GrW (w.alloc (.cells #[] 46)) w.heap.size (.slice (some ⟨w.heap.size, 0, none⟩) 0 0) [] [] :=
 ⟨OwnsW.lit w, rfl, fun i hi => by simp at hi, fun i j b c h1 h2 => by simp at h2⟩
theorem GrW.none (w : World) (lo : Nat) : GrW w lo (.slice none 0 0) [] [] :=
 ⟨OwnsW.nil w lo, rfl, fun i hi => by simp at hi, fun i j b c h1 h2 => by simp at h2⟩
theorem getD_snocV {us : List Value} {u : Value} {i : Nat} (h : i < us.length) : (us ++ [u]).getD i undef = us.getD i undef := by
 rw [List.getD_eq_getElem?_getD, List.getElem?_append_left h, List.getD_eq_getElem?_getD]
theorem GrW.push {w w2 w3 : World} {X : Obj} {lo : Nat} {v v' u : Value} {zs : List Int} {us : List Value} {zss : List (List Int)} (h : GrW w lo v us zss) (hlo : lo ≤ w.heap.size) (hb : Below w.heap.size w w2) (hrow : RowI w2 w.heap.size w2.heap.size u zs)
 (hg : (w2.alloc X).grownBy w3 v.ownBlock) (hloc : v'.ownBlock = v.ownBlock ∨ v'.ownBlock = some (w2.heap.size + 1)) (hown : OwnsW w3 lo v' (us ++ [u])) : GrW w3 lo v' (us ++ [u]) (zss ++ [zs]) := by
 have hsz : w2.heap.size + 1 ≤ w3.heap.size := by have := hg.size; simpa using this
 have hs2 := hb.size
 have hlt := h.lt
 have h2 := h.below hb
 have hul := h.2.1
 have hk : ∀ b, b < w2.heap.size → v.ownBlock ≠ some b → w3.heap[b]? = w2.heap[b]? := fun b q1 q2 => by
  rw [hg.block b (by simp; omega) (fun e => q2 e.symm), heap_alloc_old _ _ q1]
 have hvl : ∀ b, (w.heap.size ≤ b ∧ b < w2.heap.size ∨ v.ownBlock ≠ some b ∧ b < w2.heap.size) → v'.ownBlock ≠ some b := fun b hb' e => by
  rcases hloc with q | q
  · rcases hb' with c | c
    · have := hlt.1 b (by rw [← q]; exact e); omega
    · exact c.1 (by rw [← q]; exact e)
  · rw [q] at e; cases e; omega
 have hu := rowI_lt2 hrow
 have elast : (us ++ [u]).getD us.length undef = u := by simp
 have elastz : (zss ++ [zs]).getD us.length [] = zs := by rw [hul]; simp
 refine ⟨hown, by simp [hul], fun i hi => ?_, fun i j b c hij hj hbi hcj => ?_⟩
 · by_cases hil : i < us.length
   · have ez : (zss ++ [zs]).getD i [] = zss.getD i [] := by rw [List.getD_eq_getElem?_getD, List.getElem?_append_left (by omega), List.getD_eq_getElem?_getD]
     rw [getD_snocV hil, ez]
     obtain ⟨q1, q2⟩ := h2.2.2.1 i hil
     exact ⟨rowI_keep2 q1 (by omega) fun b hb' hlt' => hk b hlt' (q2 b hb'), fun b hb' => hvl b (.inr ⟨q2 b hb', by have := hlt.2 i hil b hb'; omega⟩)⟩
   · obtain rfl : i = us.length := by rw [List.length_append, List.length_singleton] at hi; omega
     rw [elast, elastz]
     exact ⟨(rowI_keep2 hrow (by omega) fun b hb' hlt' => hk b hlt' fun e => by have := hlt.1 b e; have := (hu b hb').1; omega).wide hlo (Nat.le_refl _), fun b hb' => hvl b (.inl (hu b hb'))⟩
 · rw [List.length_append, List.length_singleton] at hj
   rw [getD_snocV (by omega)] at hbi
   by_cases hjl : j < us.length
   · rw [getD_snocV hjl] at hcj
     exact h.2.2.2 i j b c hij hjl hbi hcj
   · obtain rfl : j = us.length := by omega
     rw [elast] at hcj
     have := hlt.2 i (by omega) b hbi
     have := (hu c hcj).1
     omega
theorem GrW.done {w : World} {lo : Nat} {v : Value} {us : List Value} {zss : List (List Int)} (h : GrW w lo v us zss) (hl : zss.length ≤ 1000000000) : RowSS w lo w.heap.size v us zss := by
 refine OwnsW.rowSS h.1 (Nat.le_refl _) (Nat.le_refl _) h.2.1 hl (fun i b hi hb => (h.2.2.1 i hi).2 b hb) (fun i hi => (h.2.2.1 i hi).1) (fun i j b hi hj hne hb hc => ?_)
 rcases Nat.lt_or_ge i j with q | q
 · have := h.2.2.2 i j b b q hj hb hc; omega
 · have := h.2.2.2 j i b b (by omega) hi hc hb; omega
end Go.Proofs.YtpjlamnjiilgbaaGreat
