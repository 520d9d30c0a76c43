/- Trees, plain mathematics: the edges through which a search finds its vertices, put one by one or sorted; what TreeEdges, ExtraEdges, LoopOf, RankOf and EulerNumber answer. -/
import Derived.Test.YtacmpbekgipkfaaRK
import Derived.Test.YtacmpbekgipkfaaQG
import Derived.Test.YtacmpbekgipkfaaQA
namespace Go.Proofs.Ytacmpbekgipkfaa
open Go.RowKit
set_option linter.unusedVariables false
set_option linter.unusedSimpArgs false

theorem eB_one (u l v : Int) : v = (eB u l v).1 ∨ v = (eB u l v).2.2 := by
  unfold eB; split
  · exact .inl rfl
  · exact .inr rfl
theorem eB_two (u l v : Int) : ((eB u l v).1 = u ∨ (eB u l v).1 = v) ∧ ((eB u l v).2.2 = u ∨ (eB u l v).2.2 = v) := by
  unfold eB; split
  · exact ⟨.inr rfl, .inl rfl⟩
  · exact ⟨.inl rfl, .inr rfl⟩
/-- The edge through which place j of a search is found. -/
def eA (S : List Ar) (j : Nat) : Ed := eB (S.getD (S.getD j d0).1.2.2.toNat d0).1.1 (S.getD j d0).1.2.1 (S.getD j d0).1.1
def trA (S : List Ar) : List Ed := (List.range (S.length - 1)).map fun j => eA S (j + 1)
theorem trA_length (S : List Ar) : (trA S).length = S.length - 1 := by simp [trA]
theorem trA_at {S : List Ar} {j : Nat} (h : j + 1 < S.length) : (trA S).getD j e0 = eA S (j + 1) := by
  rw [List.getD_eq_getElem?_getD, trA, List.getElem?_map, List.getElem?_range (by omega)]; rfl
theorem trA_one (x : Ar) : trA [x] = [] := rfl
theorem eA_left {s : Nat} {u : Int} {S T : List Ar} (h : GoodA s u S) {j : Nat} (h0 : 0 < j) (hj : j < S.length) : eA (S ++ T) j = eA S j := by
  obtain ⟨b, hb, h1, _⟩ := h.back j h0 hj
  unfold eA
  rw [getD_left hj, h1, Int.toNat_natCast, getD_left (by omega)]
theorem trA_snoc {s : Nat} {u : Int} {S : List Ar} (h : GoodA s u S) {i : Nat} (hi : i < S.length) (y l : Int) (wd : List Int) : trA (S ++ [((y, l, (i : Int)), wd)]) = trA S ++ [eB (S.getD i d0).1.1 l y] := by
  have hp := h.pos
  have hl : (S ++ [((y, l, (i : Int)), wd)]).length - 1 = (S.length - 1) + 1 := by rw [List.length_append, List.length_singleton]; omega
  unfold trA
  rw [hl, List.range_succ, List.map_append]
  congr 1
  · refine List.map_congr_left fun j hj => ?_
    have := List.mem_range.1 hj
    exact eA_left h (by omega) (by omega)
  · show [eA _ (S.length - 1 + 1)] = _
    rw [show S.length - 1 + 1 = S.length by omega]
    unfold eA
    rw [getD_last]
    show [eB ((S ++ [((y, l, (i : Int)), wd)]).getD (Int.toNat (i : Int)) d0).1.1 l y] = _
    rw [Int.toNat_natCast, getD_left hi]
/-- No vertex is found twice. -/
theorem nd_arr1 {es : List Ed} {i : Nat} {S : List Ar} {l : Int} (h : (vts S).Nodup) : (vts (arr1 es i S l)).Nodup := by
  unfold arr1
  split
  case isFalse => exact h
  case isTrue hc =>
    unfold vts at hc h ⊢
    rw [List.map_append, List.nodup_append]
    refine ⟨h, by simp, fun a ha b hb => ?_⟩
    simp at hb
    intro e
    rw [e, hb] at ha
    exact hc.2 ha
theorem nd_foldl {es : List Ed} {i : Nat} : ∀ (ls : List Int) {S : List Ar}, (vts S).Nodup → (vts (ls.foldl (arr1 es i) S)).Nodup := by
  intro ls
  induction ls with
  | nil => intro S h; exact h
  | cons l ls ih => intro S h; exact ih (nd_arr1 h)
theorem nd_arrN (es : List Ed) (ls : List Int) (u : Int) : ∀ k, (vts (arrN es ls u k)).Nodup := by
  intro k
  induction k with
  | zero => simp [arrN, vts]
  | succ k ih =>
    rw [arrN]
    split
    · exact nd_foldl ls ih
    · exact ih
theorem vts_at {S : List Ar} {j : Nat} (h : j < S.length) : (vts S)[j]'(by unfold vts; rw [List.length_map]; exact h) = (S.getD j d0).1.1 := by
  unfold vts
  rw [List.getElem_map, List.getD_eq_getElem?_getD, List.getElem?_eq_getElem h]; rfl
theorem vts_inj {S : List Ar} (h : (vts S).Nodup) {i j : Nat} (hi : i < S.length) (hj : j < S.length) (e : (S.getD i d0).1.1 = (S.getD j d0).1.1) : i = j := by
  rw [← vts_at hi, ← vts_at hj] at e
  exact (List.getElem_inj h).1 e
theorem eA_ne {s : Nat} {u : Int} {S : List Ar} (h : GoodA s u S) (hn : (vts S).Nodup) {i j : Nat} (h0 : 0 < i) (hij : i < j) (hj : j < S.length) : eA S i ≠ eA S j := by
  intro e
  obtain ⟨b, hb, h1, _⟩ := h.back i h0 (by omega)
  have hone := eB_one (S.getD (S.getD j d0).1.2.2.toNat d0).1.1 (S.getD j d0).1.2.1 (S.getD j d0).1.1
  have htwo := eB_two (S.getD (S.getD i d0).1.2.2.toNat d0).1.1 (S.getD i d0).1.2.1 (S.getD i d0).1.1
  change (S.getD j d0).1.1 = (eA S j).1 ∨ (S.getD j d0).1.1 = (eA S j).2.2 at hone
  change ((eA S i).1 = _ ∨ (eA S i).1 = _) ∧ ((eA S i).2.2 = _ ∨ (eA S i).2.2 = _) at htwo
  rw [← e] at hone
  rw [h1, Int.toNat_natCast] at htwo
  have hbad : ∀ k, k < j → (S.getD j d0).1.1 ≠ (S.getD k d0).1.1 := fun k hk q => by
    have := vts_inj hn hj (by omega) q
    omega
  rcases hone with q | q
  · rcases htwo.1 with p | p
    · exact hbad b (by omega) (q.trans p)
    · exact hbad i hij (q.trans p)
  · rcases htwo.2 with p | p
    · exact hbad b (by omega) (q.trans p)
    · exact hbad i hij (q.trans p)
theorem trA_nodup {s : Nat} {u : Int} {S : List Ar} (h : GoodA s u S) (hn : (vts S).Nodup) : (trA S).Nodup := by
  unfold trA
  rw [List.nodup_iff_pairwise_ne, List.pairwise_map]
  refine List.Pairwise.imp_of_mem (fun {a b} ha hb hab => ?_) List.pairwise_lt_range
  have := List.mem_range.1 hb
  exact eA_ne h hn (by omega) (by omega) (by omega)
theorem sort_nodup {L ds : List Ed} (hp : ds.Perm L) (hs : ds.Pairwise (fun a b => ¬ cmpE b a < 0)) (hn : L.Nodup) : ds = putAll [] L := by
  have hd : ds.Nodup := hp.nodup_iff.2 hn
  have ha : AscE ds := by
    have h2 := hs.and (List.nodup_iff_pairwise_ne.1 hd)
    refine h2.imp fun {a b} hab => ?_
    have := cmpE_neg a b
    rcases cmpE_cases a b with c | c | c
    · omega
    · exact absurd (cmpE_zero c) hab.2
    · exact absurd (by omega) hab.1
  obtain ⟨g1, g2⟩ := putAll_spec L [] List.Pairwise.nil
  refine ascE_ext ha g1 fun x => ?_
  rw [g2, hp.mem_iff]
  simp
/-- What TreeEdges answers, and ExtraEdges. -/
def trE (r s : Int) (es : List Ed) : List Ed := if isFo r s es = true then putAll [] (trA (foundA r es 0)) else []
def exE (r s : Int) (es : List Ed) : List Ed := if isFo r s es = true then es.filter (fun e => decide (e ∉ trE r s es)) else []
theorem fo_lim {r s : Int} {es : List Ed} (h : isFo r s es = true) : 1 ≤ r ∧ r ≤ 3 ∧ 1 ≤ s ∧ s ≤ 40 ∧ es.length ≤ 120 := by
  unfold isFo at h
  rw [Bool.and_eq_true] at h
  exact isGr_lim h.1
theorem trA_found {r s : Int} {es : List Ed} (h : isFo r s es = true) : (trA (foundA r es 0)).Nodup ∧ (trA (foundA r es 0)).length ≤ 39 := by
  have hl := fo_lim h
  have hg := foundA_good h (u := 0) (by omega)
  refine ⟨trA_nodup hg (nd_arrN _ _ _ _), ?_⟩
  rw [trA_length]
  have := hg.length
  omega
theorem trE_length (r s : Int) (es : List Ed) : (trE r s es).length ≤ 39 := by
  unfold trE
  split
  · rename_i h
    have h1 := putAll_length (trA (foundA r es 0)) []
    have h2 := (trA_found h).2
    simp at h1
    omega
  · simp
theorem exE_length (r s : Int) (es : List Ed) : (exE r s es).length ≤ 120 := by
  unfold exE
  split
  · rename_i h
    have h1 := List.length_filter_le (fun e => decide (e ∉ trE r s es)) es
    have h2 := fo_lim h
    omega
  · simp
/-- What the word to a vertex is. -/
def wdA (S : List Ar) (v : Int) : List Int := if v ∈ vts S then (S.getD (placeA S v) d0).2 else []
theorem path_wd {r s : Int} {es : List Ed} (h : isFo r s es = true) (v : Int) : pathA r s es 0 v = wdA (foundA r es 0) v := by
  have hl := fo_lim h
  have hg := foundA_good h (u := 0) (by omega)
  unfold pathA wdA pathT okPath
  rw [h, show isVx s 0 = true from decide_eq_true (by omega)]
  by_cases hin : v ∈ vts (foundA r es 0)
  · have hp := placeA_lt hin
    have hv := hg.vert _ hp.1
    rw [hp.2] at hv
    rw [show isVx s v = true from decide_eq_true (by omega), decide_eq_true hin, if_pos hin, if_pos (by rfl)]
  · rw [decide_eq_false hin, if_neg hin, Bool.and_false, if_neg (by decide)]
/-- What LoopOf answers. -/
def loL (r s : Int) (es : List Ed) (e : Ed) : List Int :=
  if isFo r s es = true ∧ e ∈ es then mulL (pathA r s es 0 e.1 ++ [e.2.1]) (invL (pathA r s es 0 e.2.2)) else []
theorem pathA_in {r s : Int} {es : List Ed} (u v : Int) : ∀ z ∈ pathA r s es u v, -3 ≤ z ∧ z ≤ 3 := by
  unfold pathA
  split
  case isFalse => intro z hz; cases hz
  case isTrue h =>
    unfold pathT okPath at h
    simp only [Bool.and_eq_true, decide_eq_true_eq] at h
    obtain ⟨⟨⟨h1, h2⟩, h3⟩, h4⟩ := h
    have hv := of_decide_eq_true h2
    have hG := foundA_good h1 hv
    obtain ⟨S, hS⟩ : ∃ S, S = foundA r es u := ⟨_, rfl⟩
    rw [← hS] at hG h4 ⊢
    have hall : ∀ n j, j ≤ n → j < S.length → ∀ z ∈ (S.getD j d0).2, -3 ≤ z ∧ z ≤ 3 := by
      intro n
      induction n with
      | zero =>
        intro j hj _ z hz
        obtain rfl : j = 0 := by omega
        rw [hG.zero] at hz
        cases hz
      | succ n ih =>
        intro j hj hjl z hz
        rcases Nat.eq_zero_or_pos j with h0 | h0
        · subst h0
          rw [hG.zero] at hz
          cases hz
        · obtain ⟨b, hb, _, h2⟩ := hG.back j h0 hjl
          rw [h2, List.mem_append] at hz
          rcases hz with hz | hz
          · exact ih b (by omega) (by omega) z hz
          · rw [List.mem_singleton] at hz
            rw [hz]; exact hG.lets j hjl
    exact hall _ _ (Nat.le_refl _) (placeA_lt h4).1
/-- What is not in the tree. -/
def notT (T es : List Ed) : List Ed := es.filter fun e => decide (e ∉ T)
theorem notT_all {T es : List Ed} (h : ∀ j, j < es.length → es.getD j e0 ∉ T) : notT T es = es := by
  refine List.filter_eq_self.2 fun e he => decide_eq_true ?_
  obtain ⟨i, hi, rfl⟩ := List.getElem_of_mem he
  rw [← getE_at hi]; exact h i hi
where getE_at {es : List Ed} {i : Nat} (h : i < es.length) : es.getD i e0 = es[i] := by rw [List.getD_eq_getElem?_getD, List.getElem?_eq_getElem h]; rfl
theorem notT_next {T es : List Ed} {j : Nat} (h : j < es.length) : notT T (es.take (j + 1)) = notT T (es.take j) ++ (if es.getD j e0 ∉ T then [es.getD j e0] else []) := by
  unfold notT
  rw [List.take_add_one, List.getElem?_eq_getElem h, List.filter_append, List.getD_eq_getElem?_getD, List.getElem?_eq_getElem h]
  congr 1
  simp [List.filter_cons]
theorem exE_not {r s : Int} {es : List Ed} (h : isFo r s es = true) : exE r s es = notT (trE r s es) es := by unfold exE notT; rw [if_pos h]
/-- A word of the call's own, that may grow; and whether there is one. -/
def LwIntsBoolO (w : World) (zs : List Int) (b : Bool) (e : Ending) (w' : World) : Prop := ∃ v, e = .returned (.tuple #[v, .bool b]) ∧ OwnsI w' w.heap.size v zs ∧ Below w.heap.size w w'
def IntsRetO (w : World) (zs : List Int) (e : Ending) (w' : World) : Prop := ∃ v, e = .returned v ∧ OwnsI w' w.heap.size v zs ∧ Below w.heap.size w w'
theorem IntsRetO.ret {w : World} {zs : List Int} {e : Ending} {w' : World} (h : IntsRetO w zs e w') (hl : zs.length ≤ 1000000) : IntsRet w zs e w' := by
  obtain ⟨v, h1, h2, h3⟩ := h
  exact ⟨v, h1, h2.row (by omega), h3⟩
end Go.Proofs.Ytacmpbekgipkfaa
