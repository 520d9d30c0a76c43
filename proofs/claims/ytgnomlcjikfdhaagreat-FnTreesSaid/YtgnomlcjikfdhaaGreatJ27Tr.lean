import Derived.Test.YtgnomlcjikfdhaaGreatJ26Tr
import Derived.Test.YtgnomlcjikfdhaaGreatJ14Tr
import Derived.Test.YtgnomlcjikfdhaaGreatJ1Tr
import Derived.Test.YtgnomlcjikfdhaaGreatJ19Tr
import Derived.Test.YtgnomlcjikfdhaaGreatJ20Tr
import Derived.Test.YtgnomlcjikfdhaaGreatJ5Tr
namespace Go.Proofs.YtgnomlcjikfdhaaGreat
open Go.RowKit
set_option linter.unusedVariables false
set_option linter.unusedSimpArgs false
theorem eB_one (u l v : Int) : v = (eB u l v).1 ∨ v = (eB u l v).2.2 := by
 unfold eB; split
 · exact .inl rfl
 · exact .inr rfl
theorem eB_two (u l v : Int) : ((eB u l v).1 = u ∨ (eB u l v).1 = v) ∧ ((eB u l v).2.2 = u ∨ (eB u l v).2.2 = v) := by
 unfold eB; split
 · exact ⟨.inr rfl, .inl rfl⟩
 · exact ⟨.inl rfl, .inr rfl⟩
def eA (S : List Ar) (j : Nat) : Ed := eB (S.getD (S.getD j d0).1.2.2.toNat d0).1.1 (S.getD j d0).1.2.1 (S.getD j d0).1.1
def trA (S : List Ar) : List Ed := (List.range (S.length - 1)).map fun j => eA S (j + 1)
theorem trA_length (S : List Ar) : (trA S).length = S.length - 1 := by simp [trA]
theorem trA_at {S : List Ar} {j : Nat} (h : j + 1 < S.length) : (trA S).getD j e0 = eA S (j + 1) := by
 rw [List.getD_eq_getElem?_getD, trA, List.getElem?_map, List.getElem?_range (by omega)]; rfl
theorem eA_left {s : Nat} {u : Int} {S T : List Ar} (h : GoodA s u S) {j : Nat} (h0 : 0 < j) (hj : j < S.length) : eA (S ++ T) j = eA S j := by
 obtain ⟨b, hb, h1, _⟩ := h.back j h0 hj
 unfold eA
 rw [getD_left hj, h1, Int.toNat_natCast, getD_left (by omega)]
theorem trA_snoc {s : Nat} {u : Int} {S : List Ar} (h : GoodA s u S) {i : Nat} (hi : i < S.length) (y l : Int) (wd : List Int) : trA (S ++ [((y, l, (i : Int)), wd)]) = trA S ++ [eB (S.getD i d0).1.1 l y] := by
 have hp := h.pos
 have hl : (S ++ [((y, l, (i : Int)), wd)]).length - 1 = (S.length - 1) + 1 := by rw [List.length_append, List.length_singleton]; omega
 unfold trA
 rw [hl, List.range_succ, List.map_append]
 congr 1
 · refine List.map_congr_left fun j hj => ?_
   have := List.mem_range.1 hj
   exact eA_left h (by omega) (by omega)
 · show [eA _ (S.length - 1 + 1)] = _
   rw [show S.length - 1 + 1 = S.length by omega]
   unfold eA
   rw [getD_last]
   show [eB ((S ++ [((y, l, (i : Int)), wd)]).getD (Int.toNat (i : Int)) d0).1.1 l y] = _
   rw [Int.toNat_natCast, getD_left hi]
theorem nd_arr1 {es : List Ed} {i : Nat} {S : List Ar} {l : Int} (h : (vts S).Nodup) : (vts (arr1 es i S l)).Nodup := by
 unfold arr1
 split
 case isFalse => exact h
 case isTrue hc =>
  unfold vts at hc h ⊢
  rw [List.map_append, List.nodup_append]
  refine ⟨h, by simp, fun a ha b hb => ?_⟩
  simp at hb
  intro e
  rw [e, hb] at ha
  exact hc.2 ha
theorem nd_foldl {es : List Ed} {i : Nat} : ∀ (ls : List Int) {S : List Ar}, (vts S).Nodup → (vts (ls.foldl (arr1 es i) S)).Nodup := by
 intro ls
 induction ls with
 | nil => intro S h; exact h
 | cons l ls ih => intro S h; exact ih (nd_arr1 h)
theorem nd_arrN (es : List Ed) (ls : List Int) (u : Int) : ∀ k, (vts (arrN es ls u k)).Nodup := by
 intro k
 induction k with
 | zero => simp [arrN, vts]
 | succ k ih =>
  rw [arrN]
  split
  · exact nd_foldl ls ih
  · exact ih
theorem vts_el {S : List Ar} {j : Nat} (h : j < S.length) : (vts S)[j]'(by unfold vts; rw [List.length_map]; exact h) = (S.getD j d0).1.1 := by
 unfold vts
 rw [List.getElem_map, List.getD_eq_getElem?_getD, List.getElem?_eq_getElem h]; rfl
theorem vts_inj {S : List Ar} (h : (vts S).Nodup) {i j : Nat} (hi : i < S.length) (hj : j < S.length) (e : (S.getD i d0).1.1 = (S.getD j d0).1.1) : i = j := by
 rw [← vts_el hi, ← vts_el hj] at e
 exact (List.getElem_inj h).1 e
theorem eA_ne {s : Nat} {u : Int} {S : List Ar} (h : GoodA s u S) (hn : (vts S).Nodup) {i j : Nat} (h0 : 0 < i) (hij : i < j) (hj : j < S.length) : eA S i ≠ eA S j := by
 intro e
 obtain ⟨b, hb, h1, _⟩ := h.back i h0 (by omega)
 have hone := eB_one (S.getD (S.getD j d0).1.2.2.toNat d0).1.1 (S.getD j d0).1.2.1 (S.getD j d0).1.1
 have htwo := eB_two (S.getD (S.getD i d0).1.2.2.toNat d0).1.1 (S.getD i d0).1.2.1 (S.getD i d0).1.1
 change (S.getD j d0).1.1 = (eA S j).1 ∨ (S.getD j d0).1.1 = (eA S j).2.2 at hone
 change ((eA S i).1 = _ ∨ (eA S i).1 = _) ∧ ((eA S i).2.2 = _ ∨ (eA S i).2.2 = _) at htwo
 rw [← e] at hone
 rw [h1, Int.toNat_natCast] at htwo
 have hbad : ∀ k, k < j → (S.getD j d0).1.1 ≠ (S.getD k d0).1.1 := fun k hk q => by
  have := vts_inj hn hj (by omega) q
  omega
 rcases hone with q | q
 · rcases htwo.1 with p | p
   · exact hbad b (by omega) (q.trans p)
   · exact hbad i hij (q.trans p)
 · rcases htwo.2 with p | p
   · exact hbad b (by omega) (q.trans p)
   · exact hbad i hij (q.trans p)
theorem trA_nodup {s : Nat} {u : Int} {S : List Ar} (h : GoodA s u S) (hn : (vts S).Nodup) : (trA S).Nodup := by
 unfold trA
 rw [List.nodup_iff_pairwise_ne, List.pairwise_map]
 refine List.Pairwise.imp_of_mem (fun {a b} ha hb hab => ?_) List.pairwise_lt_range
 have := List.mem_range.1 hb
 exact eA_ne h hn (by omega) (by omega) (by omega)
theorem sort_nodup {L ds : List Ed} (hp : ds.Perm L) (hs : ds.Pairwise (fun a b => ¬ cmpE b a < 0)) (hn : L.Nodup) : ds = putAll [] L := by
 have hd : ds.Nodup := hp.nodup_iff.2 hn
 have ha : AscE ds := by
  have h2 := hs.and (List.nodup_iff_pairwise_ne.1 hd)
  refine h2.imp fun {a b} hab => ?_
  have := cmpE_neg a b
  rcases cmpE_cases a b with c | c | c
  · omega
  · exact absurd (cmpE_zero c) hab.2
  · exact absurd (by omega) hab.1
 obtain ⟨g1, g2⟩ := putAll_spec L [] List.Pairwise.nil
 refine ascE_ext ha g1 fun x => ?_
 rw [g2, hp.mem_iff]
 simp
def trE (r s : Int) (es : List Ed) : List Ed := if isFo r s es = true then putAll [] (trA (foundA r es 0)) else []
def exE (r s : Int) (es : List Ed) : List Ed := if isFo r s es = true then es.filter (fun e => decide (e ∉ trE r s es)) else []
theorem fo_lim {r s : Int} {es : List Ed} (h : isFo r s es = true) : 1 ≤ r ∧ r ≤ 3 ∧ 1 ≤ s ∧ s ≤ 40 ∧ es.length ≤ 120 := by
 unfold isFo at h
 rw [Bool.and_eq_true] at h
 exact isGr_lim h.1
theorem trA_found {r s : Int} {es : List Ed} (h : isFo r s es = true) : (trA (foundA r es 0)).Nodup ∧ (trA (foundA r es 0)).length ≤ 39 := by
 have hl := fo_lim h
 have hg := foundA_good h (u := 0) (by omega)
 refine ⟨trA_nodup hg (nd_arrN _ _ _ _), ?_⟩
 rw [trA_length]
 have := hg.length
 omega
theorem trE_length (r s : Int) (es : List Ed) : (trE r s es).length ≤ 39 := by
 unfold trE
 split
 · rename_i h
   have h1 := putAll_length (trA (foundA r es 0)) []
   have h2 := (trA_found h).2
   simp at h1
   omega
 · simp
theorem exE_length (r s : Int) (es : List Ed) : (exE r s es).length ≤ 120 := by
 unfold exE
 split
 · rename_i h
   have h1 := List.length_filter_le (fun e => decide (e ∉ trE r s es)) es
   have h2 := fo_lim h
   omega
 · simp
def wdA (S : List Ar) (v : Int) : List Int := if v ∈ vts S then (S.getD (placeA S v) d0).2 else []
theorem path_wd {r s : Int} {es : List Ed} (h : isFo r s es = true) (v : Int) : pathA r s es 0 v = wdA (foundA r es 0) v := by
 have hl := fo_lim h
 have hg := foundA_good h (u := 0) (by omega)
 unfold pathA wdA pathT okPath
 rw [h, show isVx s 0 = true from decide_eq_true (by omega)]
 by_cases hin : v ∈ vts (foundA r es 0)
 · have hp := placeA_lt hin
   have hv := hg.vert _ hp.1
   rw [hp.2] at hv
   rw [show isVx s v = true from decide_eq_true (by omega), decide_eq_true hin, if_pos hin, if_pos (by rfl)]
 · rw [decide_eq_false hin, if_neg hin, Bool.and_false, if_neg (by decide)]
def loL (r s : Int) (es : List Ed) (e : Ed) : List Int :=
 if isFo r s es = true ∧ e ∈ es then mulL (pathA r s es 0 e.1 ++ [e.2.1]) (invL (pathA r s es 0 e.2.2)) else []
theorem pathA_in {r s : Int} {es : List Ed} (u v : Int) : ∀ z ∈ pathA r s es u v, -3 ≤ z ∧ z ≤ 3 := by
 unfold pathA
 split
 case isFalse => intro z hz; cases hz
 case isTrue h =>
  unfold pathT okPath at h
  simp only [Bool.and_eq_true, decide_eq_true_eq] at h
  obtain ⟨⟨⟨h1, h2⟩, h3⟩, h4⟩ := h
  have hv := of_decide_eq_true h2
  have hG := foundA_good h1 hv
  obtain ⟨S, hS⟩ := exq (foundA r es u)
  rw [← hS] at hG h4 ⊢
  have hall : ∀ n j, j ≤ n → j < S.length → ∀ z ∈ (S.getD j d0).2, -3 ≤ z ∧ z ≤ 3 := by
   intro n
   induction n with
   | zero =>
    intro j hj _ z hz
    obtain rfl : j = 0 := by omega
    rw [hG.zero] at hz
    cases hz
   | succ n ih =>
    intro j hj hjl z hz
    rcases Nat.eq_zero_or_pos j with h0 | h0
    · subst h0
      rw [hG.zero] at hz
      cases hz
    · obtain ⟨b, hb, _, h2⟩ := hG.back j h0 hjl
      rw [h2, List.mem_append] at hz
      rcases hz with hz | hz
      · exact ih b (by omega) (by omega) z hz
      · rw [List.mem_singleton] at hz
        rw [hz]; exact hG.lets j hjl
  exact hall _ _ (Nat.le_refl _) (placeA_lt h4).1
def notT (T es : List Ed) : List Ed := es.filter fun e => decide (e ∉ T)
theorem notT_all {T es : List Ed} (h : ∀ j, j < es.length → es.getD j e0 ∉ T) : notT T es = es := by
 refine List.filter_eq_self.2 fun e he => decide_eq_true ?_
 obtain ⟨i, hi, rfl⟩ := List.getElem_of_mem he
 rw [← getE_at hi]; exact h i hi
where getE_at {es : List Ed} {i : Nat} (h : i < es.length) : es.getD i e0 = es[i] := by rw [List.getD_eq_getElem?_getD, List.getElem?_eq_getElem h]; rfl
theorem notT_next {T es : List Ed} {j : Nat} (h : j < es.length) : notT T (es.take (j + 1)) = notT T (es.take j) ++ (if es.getD j e0 ∉ T then [es.getD j e0] else []) := by
 unfold notT
 rw [List.take_add_one, List.getElem?_eq_getElem h, List.filter_append, List.getD_eq_getElem?_getD, List.getElem?_eq_getElem h]
 congr 1
 simp [List.filter_cons]
theorem exE_not {r s : Int} {es : List Ed} (h : isFo r s es = true) : exE r s es = notT (trE r s es) es := by unfold exE notT; rw [if_pos h]
def LwIntsBoolO (w : World) (zs : List Int) (b : Bool) (e : Ending) (w' : World) : Prop := ∃ v, e = .returned (.tuple #[v, .bool b]) ∧ OwnsI w' w.heap.size v zs ∧ Below w.heap.size w w'
def IntsRetO (w : World) (zs : List Int) (e : Ending) (w' : World) : Prop := ∃ v, e = .returned v ∧ OwnsI w' w.heap.size v zs ∧ Below w.heap.size w w'
theorem IntsRetO.ret {w : World} {zs : List Int} {e : Ending} {w' : World} (h : IntsRetO w zs e w') (hl : zs.length ≤ 1000000) : IntsRet w zs e w' := by
 obtain ⟨v, h1, h2, h3⟩ := h
 exact ⟨v, h1, h2.row (by omega), h3⟩
end Go.Proofs.YtgnomlcjikfdhaaGreat
namespace Go.Proofs.YtgnomlcjikfdhaaGreat
open Go.RowKit
set_option linter.unusedVariables false
set_option linter.unusedSimpArgs false
theorem vts_at {S : List Ar} {i : Nat} (h : i < S.length) : (vts S).getD i 0 = (S.getD i d0).1.1 := by
 unfold vts
 rw [List.getD_eq_getElem?_getD, List.getElem?_map, List.getElem?_eq_getElem h, List.getD_eq_getElem?_getD, List.getElem?_eq_getElem h]; rfl
theorem vts_arr1 (es : List Ed) (i : Nat) (S : List Ar) (l : Int) : vts (arr1 es i S l) = coS es (S.getD i d0).1.1 (vts S) l := by
 unfold arr1 coS
 split
 · unfold vts; rw [List.map_append]; rfl
 · rfl
theorem arr1_at (es : List Ed) {i j : Nat} {S : List Ar} (l : Int) (h : j < S.length) : (arr1 es i S l).getD j d0 = S.getD j d0 := by
 unfold arr1
 split
 · exact getD_left h
 · rfl
theorem vts_fold (es : List Ed) (i : Nat) : ∀ (ls : List Int) (S : List Ar), i < S.length → vts (ls.foldl (arr1 es i) S) = ls.foldl (coS es (S.getD i d0).1.1) (vts S) := by
 intro ls
 induction ls with
 | nil => intro S _; rfl
 | cons l ls ih =>
  intro S h
  rw [List.foldl_cons, List.foldl_cons, ih _ (Nat.lt_of_lt_of_le h (arr1_le es i S l)), vts_arr1, arr1_at es l h]
theorem vts_arrN (es : List Ed) (ls : List Int) : ∀ k, vts (arrN es ls 0 k) = coN es ls k := by
 intro k
 induction k with
 | zero => rfl
 | succ k ih =>
  have hl : (arrN es ls 0 k).length = (coN es ls k).length := by rw [← ih]; simp [vts]
  unfold arrN coN
  rw [← hl]
  by_cases h : k < (arrN es ls 0 k).length
  · rw [if_pos h, if_pos h, vts_fold es k ls _ h, ih, coR, List.take_length, ← ih, vts_at h]
  · rw [if_neg h, if_neg h]; exact ih
theorem found_order {r s : Int} {es : List Ed} (h : isFo r s es = true) : ((foundA r es 0).map (·.1)).map (·.1) = coL r s es (letsN r.toNat) := by
 have hg : isGr r s es = true := by unfold isFo at h; rw [Bool.and_eq_true] at h; exact h.1
 have hl := isGr_lim hg
 have hgood := good_arrN (s := s.toNat) (u := 0) (es := es) (ls := letsN r.toNat) (by omega) (fun l hl => by have := letsN_in r.toNat l hl; omega) (nx_lt h)
 have hend := arrN_end (es := es) (ls := letsN r.toNat) (u := 0) (k := 40) (by have := (hgood 40).length; omega) (by omega)
 unfold coL foundA
 rw [if_pos h, hend, ← vts_arrN, List.map_map]; rfl
end Go.Proofs.YtgnomlcjikfdhaaGreat
namespace Go.Proofs.YtgnomlcjikfdhaaGreat
open Go.RowKit
set_option linter.unusedVariables false
set_option linter.unusedSimpArgs false
theorem stepAt_mem {es : List Ed} {v l y : Int} : StepAt es v l y ↔ ∃ e ∈ es, (v = e.1 ∧ l = e.2.1 ∧ y = e.2.2) ∨ (v = e.2.2 ∧ l = -e.2.1 ∧ y = e.1) := by
 unfold StepAt
 rw [mem_getD]
theorem fo_gr {r s : Int} {es : List Ed} (h : isFo r s es = true) : isGr r s es = true ∧ foldB es es.length = true := by unfold isFo at h; rw [Bool.and_eq_true] at h; exact h
theorem coS_pre8 (es : List Ed) (u : Int) (out : List Int) (l : Int) : ∃ t, coS es u out l = out ++ t := by
 unfold coS; split
 · exact ⟨_, rfl⟩
 · exact ⟨[], (List.append_nil _).symm⟩
theorem fold_pre (es : List Ed) (u : Int) : ∀ (ls out : List Int), ∃ t, ls.foldl (coS es u) out = out ++ t := by
 intro ls
 induction ls with
 | nil => intro out; exact ⟨[], (List.append_nil _).symm⟩
 | cons l r ih =>
  intro out
  obtain ⟨t1, h1⟩ := coS_pre8 es u out l
  obtain ⟨t2, h2⟩ := ih (coS es u out l)
  exact ⟨t1 ++ t2, by rw [List.foldl_cons, h2, h1, List.append_assoc]⟩
theorem coR_full (es : List Ed) (u : Int) (ls out : List Int) : coR es u ls out ls.length = ls.foldl (coS es u) out := by unfold coR; rw [List.take_length]
theorem coN_pre1 (es : List Ed) (ls : List Int) (i : Nat) : ∃ t, coN es ls (i + 1) = coN es ls i ++ t := by
 show ∃ t, (if i < (coN es ls i).length then coR es ((coN es ls i).getD i 0) ls (coN es ls i) ls.length else coN es ls i) = coN es ls i ++ t
 split
 · rw [coR_full]; exact fold_pre es _ ls _
 · exact ⟨[], (List.append_nil _).symm⟩
theorem coN_pre (es : List Ed) (ls : List Int) (i : Nat) : ∀ j, ∃ t, coN es ls (i + j) = coN es ls i ++ t := by
 intro j
 induction j with
 | zero => exact ⟨[], (List.append_nil _).symm⟩
 | succ j ih =>
  obtain ⟨t, ht⟩ := ih
  obtain ⟨t2, h2⟩ := coN_pre1 es ls (i + j)
  exact ⟨t ++ t2, by rw [show i + (j + 1) = i + j + 1 by omega, h2, ht, List.append_assoc]⟩
theorem coN_40 (es : List Ed) (ls : List Int) {i : Nat} (h : i ≤ 40) : ∃ t, coN es ls 40 = coN es ls i ++ t := by
 have := coN_pre es ls i (40 - i)
 rw [show i + (40 - i) = 40 by omega] at this
 exact this
theorem fold_has {es : List Ed} {u : Int} : ∀ {ls out : List Int} {l : Int}, l ∈ ls → 0 ≤ nxV es u l → nxV es u l ∈ ls.foldl (coS es u) out := by
 intro ls
 induction ls with
 | nil => intro out l h; cases h
 | cons x r ih =>
  intro out l h h0
  rw [List.foldl_cons]
  rcases List.mem_cons.1 h with rfl | h
  · obtain ⟨t, ht⟩ := fold_pre es u r (coS es u out l)
    rw [ht, List.mem_append]
    left
    unfold coS
    by_cases hm : nxV es u l ∈ out
    · rw [if_neg (fun c => c.2 hm)]; exact hm
    · rw [if_pos ⟨h0, hm⟩]; exact List.mem_append_right _ (List.mem_singleton.2 rfl)
  · exact ih h h0
theorem getD_pre {a t : List Int} {i : Nat} (h : i < a.length) : (a ++ t).getD i 0 = a.getD i 0 := by
 rw [List.getD_eq_getElem?_getD, List.getElem?_append_left h, List.getD_eq_getElem?_getD]
theorem coN_closed {s : Nat} {es : List Ed} {ls : List Int} (hl : (coN es ls 40).length ≤ 40) {i : Nat} (hi : i < (coN es ls 40).length) {l : Int} (hm : l ∈ ls) (h0 : 0 ≤ nxV es ((coN es ls 40).getD i 0) l) : nxV es ((coN es ls 40).getD i 0) l ∈ coN es ls 40 := by
 have hi2 : i < (coN es ls i).length := by
  rcases Nat.lt_or_ge i (coN es ls i).length with c | c
  · exact c
  · exfalso
    have := coN_stop (es := es) (ls := ls) (i := i) c (40 - i)
    rw [show i + (40 - i) = 40 by omega] at this
    rw [this] at hi
    omega
 obtain ⟨t, ht⟩ := coN_40 es ls (i := i) (by omega)
 obtain ⟨t2, ht2⟩ := coN_40 es ls (i := i + 1) (by omega)
 have hg : (coN es ls 40).getD i 0 = (coN es ls i).getD i 0 := by rw [ht, getD_pre hi2]
 rw [hg] at h0 ⊢
 rw [ht2, List.mem_append]
 left
 rw [coN, if_pos hi2, coR_full]
 exact fold_has hm h0
theorem coN_zero (es : List Ed) (ls : List Int) : (coN es ls 40).getD 0 0 = 0 ∧ 0 < (coN es ls 40).length := by
 obtain ⟨t, ht⟩ := coN_40 es ls (i := 0) (by omega)
 rw [ht]
 constructor
 · rfl
 · rw [List.length_append]; show 0 < 1 + _; omega
theorem fo_order {r s : Int} {es : List Ed} (hf : isFo r s es = true) : CoIn s.toNat (coN es (letsN r.toNat) 40) ∧ okN r s es (coN es (letsN r.toNat) 40) = true ∧ (coN es (letsN r.toNat) 40).length ≤ 40 := by
 have hg := (fo_gr hf).1
 have hl := isGr_lim hg
 have hco := CoIn.all (endsIn_of hg) (by omega) (letsN r.toNat) 40
 have hz := (coN_zero es (letsN r.toNat)).2
 exact ⟨hco, okN_iff.2 ⟨hg, by omega, hco⟩, by have := hco.len; omega⟩
end Go.Proofs.YtgnomlcjikfdhaaGreat
namespace Go.Proofs.YtgnomlcjikfdhaaGreat
open Go.RowKit
set_option linter.unusedVariables false
set_option linter.unusedSimpArgs false
structure Iso (sA : Int) (EA : List Ed) (sB : Int) (EB : List Ed) (f : Int → Int) : Prop where
 zero : f 0 = 0
 rng : ∀ v, 0 ≤ v → v < sA → 0 ≤ f v ∧ f v < sB
 inj : ∀ u v, 0 ≤ u → u < sA → 0 ≤ v → v < sA → f u = f v → u = v
 sur : ∀ y, 0 ≤ y → y < sB → ∃ v, 0 ≤ v ∧ v < sA ∧ f v = y
 ed : ∀ u l v, 0 ≤ u → u < sA → 0 ≤ v → v < sA → ((u, l, v) ∈ EA ↔ (f u, l, f v) ∈ EB)
theorem Iso.symm {sA sB : Int} {EA EB : List Ed} {f : Int → Int} (h : Iso sA EA sB EB f) (hA : 0 < sA) : ∃ g, Iso sB EB sA EA g ∧ (∀ v, 0 ≤ v → v < sA → g (f v) = v) ∧ ∀ y, 0 ≤ y → y < sB → f (g y) = y := by
 have hex : ∀ y : Int, ∃ v : Int, 0 ≤ y ∧ y < sB → 0 ≤ v ∧ v < sA ∧ f v = y := fun y => by
  by_cases c : 0 ≤ y ∧ y < sB
  · obtain ⟨v, h1, h2, h3⟩ := h.sur y c.1 c.2
    exact ⟨v, fun _ => ⟨h1, h2, h3⟩⟩
  · exact ⟨0, fun c' => absurd c' c⟩
 obtain ⟨g, hg⟩ := Classical.axiomOfChoice hex
 have hgf : ∀ v, 0 ≤ v → v < sA → g (f v) = v := fun v h0 h1 => by
  obtain ⟨a, b, c⟩ := hg (f v) (h.rng v h0 h1)
  exact h.inj _ _ a b h0 h1 c
 have hfg : ∀ y, 0 ≤ y → y < sB → f (g y) = y := fun y h0 h1 => (hg y ⟨h0, h1⟩).2.2
 refine ⟨g, ⟨?_, fun y h0 h1 => ?_, fun u v a b c d e => ?_, fun v h0 h1 => ?_, fun u l v a b c d => ?_⟩, hgf, hfg⟩
 · have := hgf 0 (by omega) hA
   rw [h.zero] at this; exact this
 · obtain ⟨a, b, _⟩ := hg y ⟨h0, h1⟩; exact ⟨a, b⟩
 · rw [← hfg u a b, ← hfg v c d, e]
 · exact ⟨f v, (h.rng v h0 h1).1, (h.rng v h0 h1).2, hgf v h0 h1⟩
 · obtain ⟨a1, a2, a3⟩ := hg u ⟨a, b⟩
   obtain ⟨c1, c2, c3⟩ := hg v ⟨c, d⟩
   rw [h.ed _ l _ a1 a2 c1 c2, a3, c3]
theorem Iso.le {sA sB : Int} {EA EB : List Ed} {f : Int → Int} (h : Iso sA EA sB EB f) (hA : 0 < sA) (hB : 0 < sB) : sA ≤ sB := by
 have hc : CoIn sB.toNat ((upN sA.toNat).map f) := by
  refine ⟨?_, fun y hy => ?_⟩
  · unfold List.Nodup
    rw [List.pairwise_map]
    refine List.Pairwise.imp_of_mem ?_ (asc_up sA.toNat)
    intro a b ha hb hab e
    have ha2 := mem_up.1 ha
    have hb2 := mem_up.1 hb
    have := h.inj a b ha2.1 (by omega) hb2.1 (by omega) e
    omega
  · obtain ⟨v, hv, rfl⟩ := List.mem_map.1 hy
    have hv2 := mem_up.1 hv
    have := h.rng v hv2.1 (by omega)
    omega
 have := hc.len
 rw [List.length_map, up_len] at this
 omega
theorem step_iff {es : List Ed} {v l y : Int} : StepAt es v l y ↔ (v, l, y) ∈ es ∨ (y, -l, v) ∈ es := by
 rw [stepAt_mem]
 constructor
 · rintro ⟨⟨a, b, c⟩, he, ⟨h1, h2, h3⟩ | ⟨h1, h2, h3⟩⟩
   · simp only at h1 h2 h3; subst h1 h2 h3; exact .inl he
   · simp only at h1 h2 h3; subst h1 h2 h3; right; simpa using he
 · rintro (he | he)
   · exact ⟨_, he, .inl ⟨rfl, rfl, rfl⟩⟩
   · exact ⟨_, he, .inr ⟨rfl, by simp, rfl⟩⟩
section
variable {r sA sB : Int} {EA EB : List Ed} {f : Int → Int}
end
end Go.Proofs.YtgnomlcjikfdhaaGreat
namespace Go.Proofs.YtgnomlcjikfdhaaGreat
open Go.RowKit
set_option linter.unusedVariables false
set_option linter.unusedSimpArgs false
inductive Rch (L : List Int) (ea : List Ed) : Int → Prop
 | zero : Rch L ea 0
 | step {x l : Int} : Rch L ea x → l ∈ L → 0 ≤ nxV ea x l → Rch L ea (nxV ea x l)
def Mor (L : List Int) (ea eb : List Ed) (f : Int → Int) : Prop :=
 f 0 = 0 ∧ ∀ x l, Rch L ea x → l ∈ L → 0 ≤ nxV ea x l → 0 ≤ nxV eb (f x) l ∧ f (nxV ea x l) = nxV eb (f x) l
open Classical in
noncomputable def morB (L : List Int) (ea eb : List Ed) : Bool := decide (∃ f, Mor L ea eb f)
theorem morB_iff {L : List Int} {ea eb : List Ed} : morB L ea eb = true ↔ ∃ f, Mor L ea eb f := by
 unfold morB
 simp
structure MoSt (L : List Int) (ea eb : List Ed) (seen : List Int) (img : Int → Int) : Prop where
 base : 0 ∈ seen
 img0 : img 0 = 0
 rch : ∀ x ∈ seen, Rch L ea x
 same : ∀ f, Mor L ea eb f → ∀ x ∈ seen, f x = img x
theorem MoSt.none {L : List Int} {ea eb : List Ed} {seen : List Int} {img : Int → Int} (h : MoSt L ea eb seen img) {x l : Int} (hx : x ∈ seen) (hl : l ∈ L) (hn : 0 ≤ nxV ea x l) (hno : nxV eb (img x) l < 0) : morB L ea eb = false := by
 unfold morB
 rw [decide_eq_false_iff_not]
 rintro ⟨f, hf⟩
 have h1 := hf.2 x l (h.rch x hx) hl hn
 rw [h.same f hf x hx] at h1
 omega
theorem MoSt.grow {L : List Int} {ea eb : List Ed} {seen : List Int} {img img' : Int → Int} (h : MoSt L ea eb seen img) {x l : Int} (hx : x ∈ seen) (hl : l ∈ L) (hn : 0 ≤ nxV ea x l) (hnew : nxV ea x l ∉ seen)
 (hat : img' (nxV ea x l) = nxV eb (img x) l) (hel : ∀ z ∈ seen, img' z = img z) : MoSt L ea eb (seen ++ [nxV ea x l]) img' where
 base := List.mem_append_left _ h.base
 img0 := by rw [hel 0 h.base, h.img0]
 rch := by
  intro z hz
  rcases List.mem_append.1 hz with hz | hz
  · exact h.rch z hz
  · simp at hz; subst hz; exact .step (h.rch x hx) hl hn
 same := by
  intro f hf z hz
  rcases List.mem_append.1 hz with hz | hz
  · rw [hel z hz]; exact h.same f hf z hz
  · simp at hz; subst hz
    rw [hat, (hf.2 x l (h.rch x hx) hl hn).2, h.same f hf x hx]
theorem MoSt.done {L : List Int} {ea eb : List Ed} {seen : List Int} {img : Int → Int} (h : MoSt L ea eb seen img)
 (hall : ∀ x ∈ seen, ∀ l ∈ L, 0 ≤ nxV ea x l → nxV ea x l ∈ seen ∧ 0 ≤ nxV eb (img x) l ∧ img (nxV ea x l) = nxV eb (img x) l) : morB L ea eb = true := by
 rw [morB_iff]
 have hs : ∀ x, Rch L ea x → x ∈ seen := by
  intro x hx
  induction hx with
  | zero => exact h.base
  | step _ hl hn ih => exact (hall _ ih _ hl hn).1
 exact ⟨img, h.img0, fun x l hx hl hn => (hall x (hs x hx) l hl hn).2⟩
end Go.Proofs.YtgnomlcjikfdhaaGreat
