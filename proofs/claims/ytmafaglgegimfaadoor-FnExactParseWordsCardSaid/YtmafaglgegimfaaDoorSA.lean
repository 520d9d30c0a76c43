/- Slices of slices of ints that came in: the row's step, the laws' own helpers toIntSS and szIntSS. -/
import Derived.Test.YtmafaglgegimfaaDoorLS4
import Derived.Test.YtmafaglgegimfaaDoorLW
import Derived.Deep.Slices
import Derived.ChangeSlices
namespace Go.Proofs.YtmafaglgegimfaaDoor
open Go.RowKit Go.ChangeShapes Go.WideShapes Go.Deep
set_option linter.unusedVariables false
set_option linter.unusedSimpArgs false
set_option maxRecDepth 100000

/-- A slice of slices of ints that came in. -/
def IsRowW (w : World) (a : Option Addr) (len cap : Nat) (zss : List (List Int)) : Prop :=
  (a = none ∧ len = 0 ∧ cap = 0 ∧ zss = []) ∨ ∃ x, a = some x ∧ len ≤ cap ∧ cap ≤ maxLen ∧ zss.length = len ∧
    ∀ i, i < len → ∃ ai ni ci zs, w.cell? (x.add i) = some (.slice ai ni ci) ∧ IsRow .i64 w ai ni ci zs ∧ zss.getD i [] = zs.take ni
/-- The heads of such a slice: the lengths ns. -/
def HeadsW (w : World) (v : Value) (ns : List Nat) : Prop :=
  ∃ a cap, v = .slice a ns.length cap ∧ ns.length ≤ 9223372036854775807 ∧ (ns = [] ∨ ∃ b off, a = some ⟨b, off, none⟩ ∧ b < w.heap.size ∧ ∀ i, i < ns.length → ∃ ai ci, w.cell? ⟨b, off + i, none⟩ = some (.slice ai (ns.getD i 0) ci) ∧ ns.getD i 0 ≤ 9223372036854775807)
theorem HeadsW.below {w w' : World} {v : Value} {ns : List Nat} (h : HeadsW w v ns) (hb : Below w.heap.size w w') : HeadsW w' v ns := by
  obtain ⟨a, cap, hv, hl, hc⟩ := h
  refine ⟨a, cap, hv, hl, hc.imp id ?_⟩
  rintro ⟨b, off, ha, hB, hcell⟩
  refine ⟨b, off, ha, by have := hb.size; omega, fun i hi => ?_⟩
  obtain ⟨ai, ci, h1, h2⟩ := hcell i hi
  exact ⟨ai, ci, by rw [hb.cell (p := ⟨b, off + i, none⟩) hB]; exact h1, h2⟩
theorem row_take_len {k : IntKind} {w : World} {a : Option Addr} {n cap : Nat} {zs : List Int} (h : IsRow k w a n cap zs) : (zs.take n).length = n := by
  rcases h with ⟨_, rfl, _, rfl⟩ | ⟨x, _, h1, _, h3, _⟩
  · rfl
  · rw [List.length_take]; omega
theorem IsRowW.spot {w : World} {a : Option Addr} {len cap : Nat} {zss : List (List Int)} (h : IsRowW w a len cap zss) (h0 : 0 < len) :
    ∃ b off, a = some ⟨b, off, none⟩ ∧ b < w.heap.size ∧ len ≤ cap ∧ zss.length = len ∧ ∀ i, i < len → ∃ ai ni ci zs, w.cell? ⟨b, off + i, none⟩ = some (.slice ai ni ci) ∧ IsRow .i64 w ai ni ci zs ∧ zss.getD i [] = zs.take ni := by
  rcases h with ⟨_, h1, _⟩ | ⟨x, rfl, h1, h2, h3, hc⟩
  · omega
  · obtain ⟨_, _, _, _, c0, _⟩ := hc 0 h0
    obtain ⟨b, off, spot⟩ := x
    have hspot : spot = none := by simpa [Addr.add] using World.cell?_spot c0
    subst hspot
    refine ⟨b, off, rfl, ?_, h1, h3, fun i hi => ?_⟩
    · have c0' := c0
      simp [Addr.add] at c0'
      rcases Nat.lt_or_ge b w.heap.size with h1 | h1
      · exact h1
      · unfold World.cell? at c0'
        rw [show w.heap[(⟨b, off, none⟩ : Addr).block]? = none from Array.getElem?_eq_none h1] at c0'
        cases c0'
    · obtain ⟨ai, ni, ci, zs, q1, q2, q3⟩ := hc i hi
      refine ⟨ai, ni, ci, zs, ?_, q2, q3⟩
      by_cases hi0 : i = 0
      · subst hi0; simpa [Addr.add] using q1
      · simpa [Addr.add, hi0] using q1
theorem IsRowW.len {w : World} {a : Option Addr} {len cap : Nat} {zss : List (List Int)} (h : IsRowW w a len cap zss) : zss.length = len ∧ len ≤ 9223372036854775807 := by
  rcases h with ⟨_, rfl, _, rfl⟩ | ⟨x, _, h1, h2, h3, _⟩
  · exact ⟨rfl, by omega⟩
  · exact ⟨h3, by unfold maxLen at h2; omega⟩
theorem getD_map_len (zss : List (List Int)) (i : Nat) : (zss.map List.length).getD i 0 = (zss.getD i []).length := by
  rw [List.getD_eq_getElem?_getD, List.getElem?_map, List.getD_eq_getElem?_getD]
  cases zss[i]? <;> rfl
theorem IsRowW.heads {w : World} {a : Option Addr} {len cap : Nat} {zss : List (List Int)} (h : IsRowW w a len cap zss) : HeadsW w (.slice a len cap) (zss.map List.length) := by
  obtain ⟨hl, hm⟩ := h.len
  refine ⟨a, cap, by rw [List.length_map, hl], by rw [List.length_map]; omega, ?_⟩
  rcases Nat.eq_zero_or_pos len with h0 | h0
  · left
    have : zss = [] := List.length_eq_zero_iff.1 (by omega)
    rw [this]; rfl
  · obtain ⟨b, off, rfl, hb, _, _, hc⟩ := h.spot h0
    refine .inr ⟨b, off, rfl, hb, fun i hi => ?_⟩
    rw [List.length_map] at hi
    obtain ⟨ai, ni, ci, zs, q1, q2, q3⟩ := hc i (by omega)
    have e : (zss.map List.length).getD i 0 = ni := by rw [getD_map_len, q3, row_take_len q2]
    rw [e]
    exact ⟨ai, ci, q1, row_len q2⟩
theorem sumN_getD : ∀ (ns : List Nat) (i : Nat), i < ns.length → ns.getD i 0 ≤ sumN ns := by
  intro ns
  induction ns with
  | nil => intro i hi; simp at hi
  | cons n ns ih =>
    intro i hi
    cases i with
    | zero => simp [sumN]
    | succ i => have := ih i (by simpa using hi); simp only [List.getD_cons_succ, sumN]; omega
/-- A slice of slices of ints that came in can be read. -/
theorem IsRowW.read {w : World} {a : Option Addr} {len cap : Nat} {zss : List (List Int)} (h : IsRowW w a len cap zss) (hs : zss.length + sumN (zss.map List.length) ≤ 1048576) :
    ReadSS w.heap.size w (.slice a len cap) zss ∧ (∀ zs ∈ zss, InR zs) ∧ zss.length = len := by
  obtain ⟨hl, hm⟩ := h.len
  rcases Nat.eq_zero_or_pos len with h0 | h0
  · have hz : zss = [] := List.length_eq_zero_iff.1 (by omega)
    subst hz h0
    refine ⟨⟨by simp, a, cap, rfl, ?_, .inl rfl⟩, (fun zs hzs => (List.not_mem_nil hzs).elim), rfl⟩
    rcases h with ⟨rfl, _, rfl, _⟩ | ⟨x, rfl, h1, _⟩
    · exact ⟨fun _ => rfl, Nat.le_refl _⟩
    · exact ⟨(fun e => by cases e), Nat.zero_le _⟩
  · obtain ⟨b, off, rfl, hb, hcap, _, hc⟩ := h.spot h0
    have each : ∀ i, i < zss.length → ∃ u, w.cell? ⟨b, off + i, none⟩ = some u ∧ ReadI w.heap.size w u (zss.getD i []) ∧ InR (zss.getD i []) := fun i hi => by
      obtain ⟨ai, ni, ci, zs, q1, q2, q3⟩ := hc i (by omega)
      have hn : ni ≤ 1048576 := by
        have h1 := sumN_getD (zss.map List.length) i (by rw [List.length_map]; omega)
        rw [getD_map_len, q3, row_take_len q2] at h1
        omega
      obtain ⟨r1, r2, _⟩ := readI_row q2 hn
      exact ⟨_, q1, by rw [q3]; exact r1, by rw [q3]; exact r2⟩
    refine ⟨⟨by omega, _, cap, by rw [hl], ⟨(fun e => by cases e), by omega⟩, .inr ⟨b, off, rfl, hb, fun i hi => ?_⟩⟩, fun zs hzs => ?_, hl⟩
    · obtain ⟨u, h1, h2, _⟩ := each i hi
      exact ⟨u, h1, h2⟩
    · obtain ⟨i, hi, rfl⟩ := List.getElem_of_mem hzs
      obtain ⟨_, _, _, h3⟩ := each i hi
      rwa [List.getD_eq_getElem?_getD, List.getElem?_eq_getElem hi] at h3
theorem ReadSS.heads {w : World} {v : Value} {zss : List (List Int)} (h : ReadSS w.heap.size w v zss) : HeadsW w v (zss.map List.length) := by
  obtain ⟨hl, a, cap, rfl, hn, hc⟩ := h
  refine ⟨a, cap, by rw [List.length_map], by rw [List.length_map]; omega, ?_⟩
  rcases hc with rfl | ⟨b, off, rfl, hb, hcell⟩
  · exact .inl rfl
  · refine .inr ⟨b, off, rfl, hb, fun i hi => ?_⟩
    rw [List.length_map] at hi
    obtain ⟨u, h1, h2⟩ := hcell i hi
    obtain ⟨hzl, ai, ci, rfl, _⟩ := h2
    rw [getD_map_len]
    exact ⟨ai, ci, h1, by omega⟩
section
variable {H : Type} {enc : TypeId × Value → H} {W : World} {base : Nat} {v : Value} {d : DataW H} {p : List MemPlace}
theorem open_words {r : Reach} {b0 : Nat} (hv : Value.okWide Tryd.prog W r b0 22 v) (h : DataW.Trod enc Tryd.prog W 0 (fun _ => true) true 22 v d p) :
    ∃ (a : Option Addr) (len cap : Nat) (zss : List (List Int)), v = .slice a len cap ∧ IsRowW W a len cap zss := by
  obtain ⟨a, len, cap, rfl⟩ := okWide_slice Tryd.underlying22 hv
  obtain ⟨fuel, hf⟩ := h
  rcases open_slice Tryd.underlying22 hf with ⟨h2, _⟩ | ⟨x, l, c, m, n', D, Pl, h2, _, hlc, hcm, hm, _, hx⟩
  · simp [Value.cells] at h2
    obtain ⟨rfl, rfl, rfl⟩ := h2
    exact ⟨none, 0, 0, [], rfl, .inl ⟨rfl, rfl, rfl, rfl⟩⟩
  · simp [Value.cells] at h2
    obtain ⟨rfl, rfl, rfl⟩ := h2
    have hlm : len ≤ m := by rw [hm]; split <;> omega
    have ce : (Tryd.prog).cellsOf 31 = 1 := by kernel_rfl
    have each : ∀ i, i < len → ∃ q : Option Addr × Nat × Nat × List Int, W.cell? (x.add i) = some (.slice q.1 q.2.1 q.2.2.1) ∧ IsRow .i64 W q.1 q.2.1 q.2.2.1 q.2.2.2 := by
      intro i hi
      obtain ⟨cs', h1, h2⟩ := hx i (by omega)
      rw [ce] at h1
      obtain ⟨_, hlen, hcell⟩ := World.cells?_some h1
      match cs', hlen with
      | [u], _ =>
        have d0 := hcell 0 (by omega)
        have d1 : W.cell? (x.add i) = some u := by
          rw [Nat.mul_one] at d0
          simpa [Addr.add] using d0
        rcases open_ints Tryd.underlying31 Tryd.underlying3 (by kernel_rfl) h2 with ⟨hcs, _⟩ | ⟨y, l, c, zs, hcs, _, hl, hm', hz, _, hcell', hwz⟩
        · simp only [List.cons.injEq, and_true] at hcs
          subst hcs
          exact ⟨(none, 0, 0, []), d1, .inl ⟨rfl, rfl, rfl, rfl⟩⟩
        · simp only [List.cons.injEq, and_true] at hcs
          subst hcs
          exact ⟨(some y, l, c, zs), d1, .inr ⟨_, rfl, hl, hm', by simpa using hz, hcell', hwz⟩⟩
    obtain ⟨F, hF⟩ := choose_lt each
    refine ⟨some x, len, cap, (List.range len).map fun i => (F i).2.2.2.take (F i).2.1, rfl, .inr ⟨x, rfl, hlc, hcm, by simp, fun i hi => ?_⟩⟩
    obtain ⟨g0, g1⟩ := hF i hi
    exact ⟨_, _, _, _, g0, g1, by simp [List.getD_eq_getElem?_getD, hi]⟩
end
/-! ### toIntSS, szIntSS -/
theorem words_le {zss : List (List Int)} (h : sumN (zss.map List.length) ≤ 1048576) : ∀ i, i < zss.length → (zss.getD i []).length ≤ 1000000000 := fun i hi => by
  have h1 := sumN_getD (zss.map List.length) i (by rw [List.length_map]; exact hi)
  rw [getD_map_len] at h1
  omega
/-- Slices that a call made one after the other, each in a block of its own. -/
def Climb (w : World) (lo : Nat) (us : List Value) (zss : List (List Int)) : Prop :=
  (∀ i, i < us.length → RowI w lo w.heap.size (us.getD i undef) (zss.getD i [])) ∧ us.Pairwise (fun p q => ∀ b c, p.ownBlock = some b → q.ownBlock = some c → b < c)
theorem Climb.keep {w w' : World} {lo : Nat} {us : List Value} {zss : List (List Int)} (h : Climb w lo us zss) (hs : w.heap.size ≤ w'.heap.size) (hb : ∀ b, lo ≤ b → b < w.heap.size → w'.heap[b]? = w.heap[b]?) : Climb w' lo us zss :=
  ⟨fun i hi => ((h.1 i hi).keep hb).wide (Nat.le_refl _) hs, h.2⟩
theorem Climb.snoc {w : World} {lo s : Nat} {us : List Value} {zss : List (List Int)} {u : Value} (h : Climb w lo us zss) (hus : ∀ x ∈ us, ∀ b, x.ownBlock = some b → b < s) (hlo : lo ≤ s) (hu : RowI w s w.heap.size u (zss.getD us.length [])) : Climb w lo (us ++ [u]) zss := by
  refine ⟨fun i hi => ?_, ?_⟩
  · rw [List.length_append, List.length_singleton] at hi
    rcases Nat.lt_or_ge i us.length with h1 | h1
    · rw [List.getD_eq_getElem?_getD, List.getElem?_append_left h1, ← List.getD_eq_getElem?_getD]; exact h.1 i h1
    · obtain rfl : i = us.length := by omega
      rw [List.getD_eq_getElem?_getD, List.getElem?_append_right (Nat.le_refl _), Nat.sub_self]
      exact hu.wide hlo (Nat.le_refl _)
  · rw [List.pairwise_append]
    refine ⟨h.2, List.pairwise_singleton _ _, fun p hp q hq b c hb hc => ?_⟩
    rw [List.mem_singleton] at hq
    subst hq
    have := hus p hp b hb
    rcases hu.block with ⟨e1, _⟩ | ⟨d, e1, e2, e3, _⟩
    · rw [e1] at hc; cases hc
    · rw [e1] at hc; cases hc; omega
theorem Climb.lt {w : World} {lo : Nat} {us : List Value} {zss : List (List Int)} (h : Climb w lo us zss) : ∀ x ∈ us, ∀ b, x.ownBlock = some b → lo ≤ b ∧ b < w.heap.size := by
  intro x hx b hb
  obtain ⟨i, hi, rfl⟩ := List.getElem_of_mem hx
  have := h.1 i hi
  rw [List.getD_eq_getElem?_getD, List.getElem?_eq_getElem hi] at this
  rcases this.block with ⟨e1, _⟩ | ⟨d, e1, e2, e3, _⟩
  · simp only [Option.getD_some] at e1; rw [e1] at hb; cases hb
  · simp only [Option.getD_some] at e1; rw [e1] at hb; cases hb; exact ⟨e2, e3⟩
theorem climb_apart {us : List Value} (h : us.Pairwise (fun p q => ∀ b c, p.ownBlock = some b → q.ownBlock = some c → b < c)) : ∀ i j b, i < us.length → j < us.length → i ≠ j → (us.getD i undef).ownBlock = some b → (us.getD j undef).ownBlock ≠ some b := by
  intro i j b hi hj hij hb hc
  rw [List.getD_eq_getElem?_getD, List.getElem?_eq_getElem hi] at hb
  rw [List.getD_eq_getElem?_getD, List.getElem?_eq_getElem hj] at hc
  rw [List.pairwise_iff_getElem] at h
  rcases Nat.lt_or_gt_of_ne hij with h1 | h1
  · exact absurd (h i j hi hj h1 b b hb hc) (by omega)
  · exact absurd (h j i hj hi h1 b b hc hb) (by omega)
theorem rowI_form {w : World} {lo hi : Nat} {v : Value} {zs : List Int} (h : RowI w lo hi v zs) : ∃ a m c, v = Value.slice a m c := by
  obtain ⟨_, ⟨h1, _⟩ | ⟨g, off, cap, cur, h1, _⟩⟩ := h <;> exact ⟨_, _, _, h1⟩
/-- The copy of a list of lists: the copies of the first ones, then empty cells. -/
def padV (us : List Value) (n : Nat) : List Value := us ++ List.replicate (n - us.length) (.slice none 0 0)
theorem padV_set {us : List Value} {n : Nat} (u : Value) (h : us.length < n) : (padV us n).set us.length u = padV (us ++ [u]) n := by
  unfold padV
  rw [List.set_append_right _ _ (Nat.le_refl _), Nat.sub_self, show n - us.length = (n - (us ++ [u]).length) + 1 by simp; omega, List.replicate_succ, List.set_cons_zero, List.append_assoc]
  rfl
end Go.Proofs.YtmafaglgegimfaaDoor
