import Derived.Test.YtgnomlcjikfdhaaGreatJ27Tr
import Derived.Test.YtgnomlcjikfdhaaGreatJ30Tr
namespace Go.Proofs.YtgnomlcjikfdhaaGreat
open Go.RowKit
set_option linter.unusedVariables false
set_option linter.unusedSimpArgs false
section
variable {r s : Int} {es : List Ed}
theorem con_has (hc : conG r s es = true) {v : Int} (hv : 0 ≤ v ∧ v < s) : Con es 0 v := by
 unfold conG at hc
 rw [Bool.and_eq_true] at hc
 obtain ⟨hg, hn⟩ := hc
 have hl := isGr_lim hg
 have hE := endsIn_of hg
 have hr : reachG r s es 0 = reachL es 0 := by
  unfold reachG
  rw [if_pos]
  rw [hg]
  exact decide_eq_true (by omega)
 rw [hr] at hn
 have hn := of_decide_eq_true hn
 have hasc : (reachL es 0).Pairwise (· < ·) := by rw [← upTo_all hE (by omega)]; exact asc_upTo _
 have hin : ∀ y ∈ reachL es 0, 0 ≤ y ∧ y < ((s.toNat : Nat) : Int) := fun y hy => by
  rw [← upTo_all hE (by omega)] at hy
  exact (mem_upTo.1 hy).2
 rw [← reach_con hE (by omega)]
 by_cases hm : v ∈ reachL es 0
 · exact hm
 · exfalso
   have hall : upTo (reachL es 0) s.toNat = reachL es 0 := asc_ext (asc_upTo _) hasc fun y => by rw [mem_upTo]; exact ⟨fun h => h.1, fun h => ⟨h, hin y h⟩⟩
   have hlt : ∀ k : Nat, v < (k : Int) → (upTo (reachL es 0) k).length + 1 ≤ k := by
    intro k
    induction k with
    | zero => intro h; omega
    | succ k ih =>
     intro h
     rw [upTo]
     by_cases hk : (k : Int) = v
     · rw [hk, if_neg hm]
       have := upTo_length (reachL es 0) k
       omega
     · have := ih (by omega)
       split
       · rw [List.length_append, List.length_singleton]; omega
       · omega
   have := hlt s.toNat (by omega)
   rw [hall] at this
   omega
theorem step_nx (hf : isFo r s es = true) {v l y : Int} (h : StepAt es v l y) : nxV es v l = y := by
 obtain ⟨hg, hb⟩ := fo_gr hf
 exact nx_at hg hb h
theorem letsN_mem {k : Nat} {l : Int} (h0 : l ≠ 0) (h : -(k : Int) ≤ l ∧ l ≤ (k : Int)) : l ∈ letsN k := by
 induction k with
 | zero => omega
 | succ k ih =>
  rw [letsN, List.mem_append]
  by_cases h1 : -(k : Int) ≤ l ∧ l ≤ (k : Int)
  · exact .inl (ih h1)
  · right
    have : l = (k : Int) + 1 ∨ l = -((k : Int) + 1) := by omega
    rcases this with e | e <;> simp [e]
theorem found_all (hf : isFo r s es = true) (hc : conG r s es = true) {v : Int} (hv : 0 ≤ v ∧ v < s) : v ∈ vts (foundA r es 0) := by
 have hl := fo_lim hf
 obtain ⟨hg, hb⟩ := fo_gr hf
 have h40 := (fo_order hf).2.2
 have hvo : vts (foundA r es 0) = coN es (letsN r.toNat) 40 := by
  have := found_order hf
  unfold coL at this
  rw [if_pos hf, List.map_map] at this
  exact this
 rw [hvo]
 have hz := coN_zero es (letsN r.toNat)
 refine con_has hc hv (fun y => y ∈ coN es (letsN r.toNat) 40) ?_ ?_
 · rw [← hz.1, List.getD_eq_getElem?_getD, List.getElem?_eq_getElem hz.2]; exact List.getElem_mem hz.2
 · intro e he
   obtain ⟨i, hi, hie⟩ := List.getElem_of_mem he
   have hat := isGr_at (by omega) hg hi
   have hge : es.getD i e0 = e := by rw [List.getD_eq_getElem?_getD, List.getElem?_eq_getElem hi, hie]; rfl
   rw [hge] at hat
   have hs1 : StepAt es e.1 e.2.1 e.2.2 := step_iff.2 (.inl he)
   have hs2 : StepAt es e.2.2 (-e.2.1) e.1 := step_back hs1
   have h1 := step_nx hf hs1
   have h2 := step_nx hf hs2
   constructor
   · intro hm
     obtain ⟨j, hj, hje⟩ := List.getElem_of_mem hm
     have hjd : (coN es (letsN r.toNat) 40).getD j 0 = e.1 := by rw [List.getD_eq_getElem?_getD, List.getElem?_eq_getElem hj, hje]; rfl
     have := coN_closed (s := 0) (l := e.2.1) h40 hj (letsN_mem (by omega) (by omega)) (by rw [hjd, h1]; omega)
     rw [hjd, h1] at this
     exact this
   · intro hm
     obtain ⟨j, hj, hje⟩ := List.getElem_of_mem hm
     have hjd : (coN es (letsN r.toNat) 40).getD j 0 = e.2.2 := by rw [List.getD_eq_getElem?_getD, List.getElem?_eq_getElem hj, hje]; rfl
     have := coN_closed (s := 0) (l := -e.2.1) h40 hj (letsN_mem (by omega) (by omega)) (by rw [hjd, h2]; omega)
     rw [hjd, h2] at this
     exact this
theorem pigeon : ∀ (k : Nat) (L : List Int), (∀ v : Nat, v < k → (v : Int) ∈ L) → k ≤ L.length := by
 intro k
 induction k with
 | zero => intro L _; omega
 | succ k ih =>
  intro L h
  have hm := h k (by omega)
  have h1 := ih (L.erase (k : Int)) fun v hv => (List.mem_erase_of_ne (by omega)).2 (h v (by omega))
  rw [List.length_erase_of_mem hm] at h1
  have := List.length_pos_of_mem hm
  omega
theorem found_len (hf : isFo r s es = true) (hc : conG r s es = true) : ((foundA r es 0).length : Int) = s := by
 have hl := fo_lim hf
 have hgood := foundA_good hf (u := 0) (by omega)
 have h1 := hgood.length
 have hn : (vts (foundA r es 0)).Nodup := nd_arrN _ _ _ _
 have h2 : s.toNat ≤ (vts (foundA r es 0)).length := pigeon s.toNat (vts (foundA r es 0)) fun v hv => found_all hf hc (by omega)
 unfold vts at h2
 rw [List.length_map] at h2
 omega
theorem arr_step (hf : isFo r s es = true) (u : Int) (ls : List Int) (hl : ∀ l ∈ ls, -3 ≤ l ∧ l ≤ 3) : ∀ k, ∀ j, 0 < j → j < (arrN es ls u k).length → ∃ b : Nat, ((arrN es ls u k).getD j d0).1.2.2 = (b : Int) ∧ StepAt es ((arrN es ls u k).getD b d0).1.1 ((arrN es ls u k).getD j d0).1.2.1 ((arrN es ls u k).getD j d0).1.1 ∧ b < j := by
 obtain ⟨hg, hb⟩ := fo_gr hf
 have h1 : ∀ (i : Nat) (l : Int) (S : List Ar), (-3 ≤ l ∧ l ≤ 3) → i < S.length → (∀ j, 0 < j → j < S.length → ∃ b : Nat, (S.getD j d0).1.2.2 = (b : Int) ∧ StepAt es (S.getD b d0).1.1 (S.getD j d0).1.2.1 (S.getD j d0).1.1 ∧ b < j) →
  (∀ j, 0 < j → j < (arr1 es i S l).length → ∃ b : Nat, ((arr1 es i S l).getD j d0).1.2.2 = (b : Int) ∧ StepAt es ((arr1 es i S l).getD b d0).1.1 ((arr1 es i S l).getD j d0).1.2.1 ((arr1 es i S l).getD j d0).1.1 ∧ b < j) := by
  intro i l S hl3 hi hS
  unfold arr1
  split
  case isFalse => exact hS
  case isTrue hc =>
   intro j h0 hj
   rw [List.length_append, List.length_singleton] at hj
   by_cases hjl : j < S.length
   · obtain ⟨b, q1, q2, q3⟩ := hS j h0 hjl
     exact ⟨b, by rw [getD_left hjl]; exact q1, by rw [getD_left hjl, getD_left (by omega)]; exact q2, q3⟩
   · obtain rfl : j = S.length := by omega
     refine ⟨i, by rw [getD_last], ?_, hi⟩
     rw [getD_last, getD_left hi]
     rcases nx_cases hg hb (v := (S.getD i d0).1.1) (l := l) (by omega) with h | h
     · exact h.1
     · omega
 have h2 : ∀ (ls : List Int) (i : Nat) (S : List Ar), (∀ l ∈ ls, -3 ≤ l ∧ l ≤ 3) → i < S.length → (∀ j, 0 < j → j < S.length → ∃ b : Nat, (S.getD j d0).1.2.2 = (b : Int) ∧ StepAt es (S.getD b d0).1.1 (S.getD j d0).1.2.1 (S.getD j d0).1.1 ∧ b < j) →
  (∀ j, 0 < j → j < (ls.foldl (arr1 es i) S).length → ∃ b : Nat, ((ls.foldl (arr1 es i) S).getD j d0).1.2.2 = (b : Int) ∧ StepAt es ((ls.foldl (arr1 es i) S).getD b d0).1.1 ((ls.foldl (arr1 es i) S).getD j d0).1.2.1 ((ls.foldl (arr1 es i) S).getD j d0).1.1 ∧ b < j) := by
  intro ls
  induction ls with
  | nil => intro i S _ _ h; exact h
  | cons l ls ih =>
   intro i S hl hi hS
   exact ih i _ (fun l' h' => hl l' (List.mem_cons_of_mem _ h')) (Nat.lt_of_lt_of_le hi (arr1_le es i S l)) (h1 i l S (hl l List.mem_cons_self) hi hS)
 intro k
 induction k with
 | zero => intro j h0 hj; simp [arrN] at hj; omega
 | succ k ih =>
  rw [arrN]
  split
  · rename_i hlt; exact h2 ls k _ hl hlt ih
  · exact ih
theorem found_step (hf : isFo r s es = true) {j : Nat} (h0 : 0 < j) (hj : j < (foundA r es 0).length) : ∃ b : Nat, ((foundA r es 0).getD j d0).1.2.2 = (b : Int) ∧ StepAt es ((foundA r es 0).getD b d0).1.1 ((foundA r es 0).getD j d0).1.2.1 ((foundA r es 0).getD j d0).1.1 ∧ b < j := by
 have hl := fo_lim hf
 have key := fun k => arr_step hf 0 (letsN r.toNat) (fun l h => by have := letsN_in _ l h; omega) k
 unfold foundA at hj ⊢
 exact key 41 j h0 hj
theorem eB_mem {u l y : Int} (h : StepAt es u l y) (hl : l ≠ 0) (hg : isGr r s es = true) : eB u l y ∈ es := by
 have hv := stepAt_vert hg h
 have hgl := isGr_lim hg
 rcases step_iff.1 h with h1 | h1
 · have h2 : ¬ l < 0 := by
    obtain ⟨i, hi, hie⟩ := List.getElem_of_mem h1
    have hat := isGr_at (by omega) hg hi
    rw [List.getD_eq_getElem?_getD, List.getElem?_eq_getElem hi, hie] at hat
    simp at hat
    omega
   unfold eB; rw [if_neg h2]; exact h1
 · have h2 : l < 0 := by
    obtain ⟨i, hi, hie⟩ := List.getElem_of_mem h1
    have hat := isGr_at (by omega) hg hi
    rw [List.getD_eq_getElem?_getD, List.getElem?_eq_getElem hi, hie] at hat
    simp at hat
    omega
   unfold eB; rw [if_pos h2]; exact h1
theorem trA_mem (hf : isFo r s es = true) : ∀ e ∈ trA (foundA r es 0), e ∈ es := by
 obtain ⟨hg, hb⟩ := fo_gr hf
 intro e he
 unfold trA at he
 obtain ⟨j, hj, rfl⟩ := List.mem_map.1 he
 have hjl := List.mem_range.1 hj
 obtain ⟨b, h1, h2, h3⟩ := found_step hf (j := j + 1) (by omega) (by omega)
 unfold eA
 rw [h1, Int.toNat_natCast]
 exact eB_mem h2 (stepAt_vert hg h2).2.2.2.2 hg
theorem asc_nodup {L : List Ed} (h : AscE L) : L.Nodup := by
 rw [List.nodup_iff_pairwise_ne]
 refine h.imp fun hab e => ?_
 rw [e, cmpE_self] at hab
 omega
theorem count_split {T : List Ed} : ∀ (L : List Ed), (L.filter fun e => decide (e ∉ T)).length + (L.filter fun e => decide (e ∈ T)).length = L.length := by
 intro L
 induction L with
 | nil => rfl
 | cons e L ih =>
  simp only [decide_not] at ih ⊢
  by_cases h : e ∈ T <;> simp [List.filter_cons, h] <;> omega
theorem tree_count (hf : isFo r s es = true) (hc : conG r s es = true) : ((trE r s es).length : Int) = s - 1 ∧ (trE r s es).length + (exE r s es).length = es.length := by
 obtain ⟨hg, hb⟩ := fo_gr hf
 have hl := fo_lim hf
 have hfl := found_len hf hc
 have htn := (trA_found hf).1
 obtain ⟨g1, g2⟩ := putAll_spec (trA (foundA r es 0)) [] (List.Pairwise.nil)
 have hT : trE r s es = putAll [] (trA (foundA r es 0)) := by unfold trE; rw [if_pos hf]
 have hperm : (putAll [] (trA (foundA r es 0))).Perm (trA (foundA r es 0)) := (List.perm_ext_iff_of_nodup (asc_nodup g1) htn).2 fun x => by rw [g2]; simp
 have hlen : (trE r s es).length = (trA (foundA r es 0)).length := by rw [hT]; exact hperm.length_eq
 refine ⟨by rw [hlen, trA_length]; omega, ?_⟩
 have hx : exE r s es = es.filter (fun e => decide (e ∉ trE r s es)) := by unfold exE; rw [if_pos hf]
 have hcs := count_split (T := trE r s es) es
 rw [← hx] at hcs
 have hin : (es.filter fun e => decide (e ∈ trE r s es)).Perm (trE r s es) := by
  refine (List.perm_ext_iff_of_nodup ((asc_nodup (asc_of_gr hg)).filter _) (by rw [hT]; exact asc_nodup g1)).2 fun x => ?_
  rw [List.mem_filter, decide_eq_true_eq]
  refine ⟨fun h => h.2, fun h => ⟨?_, h⟩⟩
  rw [hT, g2] at h
  rcases h with h | h
  · cases h
  · exact trA_mem hf x h
 have := hin.length_eq
 omega
theorem rd_gen {m : Nat} {S : List Ar} (hgood : GoodA m 0 S) (hst : ∀ j, 0 < j → j < S.length → ∃ b : Nat, (S.getD j d0).1.2.2 = (b : Int) ∧ StepAt es (S.getD b d0).1.1 (S.getD j d0).1.2.1 (S.getD j d0).1.1 ∧ b < j) : ∀ n j, j ≤ n → j < S.length → Rd es 0 (S.getD j d0).2 (S.getD j d0).1.1 := by
 intro n
 induction n with
 | zero =>
  intro j hj _
  obtain rfl : j = 0 := by omega
  rw [hgood.zero]
  exact (rfl : (0 : Int) = 0)
 | succ n ih =>
  intro j hj hjl
  rcases Nat.eq_zero_or_pos j with h0 | h0
  · subst h0
    rw [hgood.zero]
    exact (rfl : (0 : Int) = 0)
  · obtain ⟨b, hb1, h1, h2⟩ := hgood.back j h0 hjl
    obtain ⟨b', h3, h4, h5⟩ := hst j h0 hjl
    have hbb : b' = b := by rw [h1] at h3; omega
    subst hbb
    rw [h2]
    exact rd_append.2 ⟨_, ih b' (by omega) (by omega), rd_one.2 h4⟩
theorem wdA_rd {m : Nat} {S : List Ar} (hgood : GoodA m 0 S) (hst : ∀ j, 0 < j → j < S.length → ∃ b : Nat, (S.getD j d0).1.2.2 = (b : Int) ∧ StepAt es (S.getD b d0).1.1 (S.getD j d0).1.2.1 (S.getD j d0).1.1 ∧ b < j) {v : Int} (hin : v ∈ vts S) : Rd es 0 (wdA S v) v := by
 unfold wdA
 rw [if_pos hin]
 have hp := placeA_lt hin
 have := rd_gen hgood hst _ _ (Nat.le_refl _) hp.1
 rw [hp.2] at this
 exact this
theorem path_rd (hf : isFo r s es = true) (hc : conG r s es = true) {v : Int} (hv : 0 ≤ v ∧ v < s) : Rd es 0 (pathA r s es 0 v) v := by
 have hl := fo_lim hf
 have h1 := foundA_good hf (u := 0) (by omega)
 have h3 := found_all hf hc hv
 have h2 := fun j (h0 : 0 < j) (hj : j < (foundA r es 0).length) => found_step hf h0 hj
 have h4 := path_wd hf v
 generalize foundA r es 0 = S at h1 h2 h3 h4
 rw [h4]
 exact wdA_rd h1 h2 h3
theorem loop_rd (hf : isFo r s es = true) (hc : conG r s es = true) (e : Ed) : Rd es 0 (loL r s es e) 0 := by
 obtain ⟨hg, hb⟩ := fo_gr hf
 have hl := fo_lim hf
 unfold loL
 split
 case isFalse => exact (rfl : (0 : Int) = 0)
 case isTrue h =>
  have he := h.2
  obtain ⟨i, hi, hie⟩ := List.getElem_of_mem he
  have hat := isGr_at (by omega) hg hi
  have hge : es.getD i e0 = e := by rw [List.getD_eq_getElem?_getD, List.getElem?_eq_getElem hi, hie]; rfl
  rw [hge] at hat
  have hs1 : StepAt es e.1 e.2.1 e.2.2 := step_iff.2 (.inl he)
  have h1 := path_rd hf hc (v := e.1) (by omega)
  have h2 := rd_back hg (path_rd hf hc (v := e.2.2) (by omega))
  unfold mulL
  refine rd_red hg hb ?_ (rd_append.2 ⟨_, rd_append.2 ⟨_, h1, rd_one.2 hs1⟩, h2⟩)
  refine InR.append (InR.append (fun z hz => by have := pathA_in (r := r) (s := s) (es := es) 0 e.1 z hz; omega) (fun z hz => by rw [List.mem_singleton] at hz; rw [hz]; omega)) InR.invL
theorem loop_walk (hf : isFo r s es = true) (hc : conG r s es = true) (e : Ed) (hin : InR (loL r s es e)) : walkB r s es 0 (loL r s es e) = true ∧ walkV r s es 0 (loL r s es e) = 0 := by
 obtain ⟨hg, hb⟩ := fo_gr hf
 have hl := fo_lim hf
 have hw := (rd_wk hg hb hin).2 (loop_rd hf hc e)
 have hok : okWk r s es 0 = true := by
  unfold okWk isVx
  rw [hf, Bool.true_and, decide_eq_true_eq]; omega
 have hB : walkB r s es 0 (loL r s es e) = true := by unfold walkB; rw [hok, Bool.true_and, hw]; simp
 refine ⟨hB, ?_⟩
 unfold walkV
 rw [hB, if_pos rfl, hw]
theorem loL_in (r s : Int) (es : List Ed) (e : Ed) : InR (loL r s es e) := by
 unfold loL
 split
 case isFalse => exact InR.nil
 case isTrue h =>
  obtain ⟨hg, hb⟩ := fo_gr h.1
  have hl := fo_lim h.1
  obtain ⟨i, hi, hie⟩ := List.getElem_of_mem h.2
  have hat := isGr_at (by omega) hg hi
  have hge : es.getD i e0 = e := by rw [List.getD_eq_getElem?_getD, List.getElem?_eq_getElem hi, hie]; rfl
  rw [hge] at hat
  unfold mulL
  refine redL_in (InR.append (InR.append (fun z hz => by have := pathA_in (r := r) (s := s) (es := es) 0 e.1 z hz; omega) (fun z hz => by rw [List.mem_singleton] at hz; rw [hz]; omega)) InR.invL)
end
end Go.Proofs.YtgnomlcjikfdhaaGreat
