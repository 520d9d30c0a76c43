/- Slices of slices of ints that came in: the row's step, the laws' own helpers toIntSS and szIntSS. -/
import Derived.Test.YtpjlamnjiilgbaaLS4
import Derived.Test.YtpjlamnjiilgbaaLW
import Derived.Deep.Slices
import Derived.ChangeSlices
namespace Go.Proofs.Ytpjlamnjiilgbaa
open Go.RowKit Go.ChangeShapes Go.WideShapes Go.Deep
set_option linter.unusedVariables false
set_option linter.unusedSimpArgs false
set_option maxRecDepth 100000

/-- A slice of slices of ints that came in. -/
def IsRowW (w : World) (a : Option Addr) (len cap : Nat) (zss : List (List Int)) : Prop :=
  (a = none ∧ len = 0 ∧ cap = 0 ∧ zss = []) ∨ ∃ x, a = some x ∧ len ≤ cap ∧ cap ≤ maxLen ∧ zss.length = len ∧
    ∀ i, i < len → ∃ ai ni ci zs, w.cell? (x.add i) = some (.slice ai ni ci) ∧ IsRow .i64 w ai ni ci zs ∧ zss.getD i [] = zs.take ni
/-- The heads of such a slice: the lengths ns. -/
def HeadsW (w : World) (v : Value) (ns : List Nat) : Prop :=
  ∃ a cap, v = .slice a ns.length cap ∧ ns.length ≤ 9223372036854775807 ∧ (ns = [] ∨ ∃ b off, a = some ⟨b, off, none⟩ ∧ b < w.heap.size ∧ ∀ i, i < ns.length → ∃ ai ci, w.cell? ⟨b, off + i, none⟩ = some (.slice ai (ns.getD i 0) ci) ∧ ns.getD i 0 ≤ 9223372036854775807)
theorem HeadsW.below {w w' : World} {v : Value} {ns : List Nat} (h : HeadsW w v ns) (hb : Below w.heap.size w w') : HeadsW w' v ns := by
  obtain ⟨a, cap, hv, hl, hc⟩ := h
  refine ⟨a, cap, hv, hl, hc.imp id ?_⟩
  rintro ⟨b, off, ha, hB, hcell⟩
  refine ⟨b, off, ha, by have := hb.size; omega, fun i hi => ?_⟩
  obtain ⟨ai, ci, h1, h2⟩ := hcell i hi
  exact ⟨ai, ci, by rw [hb.cell (p := ⟨b, off + i, none⟩) hB]; exact h1, h2⟩
theorem row_take_len {k : IntKind} {w : World} {a : Option Addr} {n cap : Nat} {zs : List Int} (h : IsRow k w a n cap zs) : (zs.take n).length = n := by
  rcases h with ⟨_, rfl, _, rfl⟩ | ⟨x, _, h1, _, h3, _⟩
  · rfl
  · rw [List.length_take]; omega
theorem IsRowW.spot {w : World} {a : Option Addr} {len cap : Nat} {zss : List (List Int)} (h : IsRowW w a len cap zss) (h0 : 0 < len) :
    ∃ b off, a = some ⟨b, off, none⟩ ∧ b < w.heap.size ∧ len ≤ cap ∧ zss.length = len ∧ ∀ i, i < len → ∃ ai ni ci zs, w.cell? ⟨b, off + i, none⟩ = some (.slice ai ni ci) ∧ IsRow .i64 w ai ni ci zs ∧ zss.getD i [] = zs.take ni := by
  rcases h with ⟨_, h1, _⟩ | ⟨x, rfl, h1, h2, h3, hc⟩
  · omega
  · obtain ⟨_, _, _, _, c0, _⟩ := hc 0 h0
    obtain ⟨b, off, spot⟩ := x
    have hspot : spot = none := by simpa [Addr.add] using World.cell?_spot c0
    subst hspot
    refine ⟨b, off, rfl, ?_, h1, h3, fun i hi => ?_⟩
    · have c0' := c0
      simp [Addr.add] at c0'
      rcases Nat.lt_or_ge b w.heap.size with h1 | h1
      · exact h1
      · unfold World.cell? at c0'
        rw [show w.heap[(⟨b, off, none⟩ : Addr).block]? = none from Array.getElem?_eq_none h1] at c0'
        cases c0'
    · obtain ⟨ai, ni, ci, zs, q1, q2, q3⟩ := hc i hi
      refine ⟨ai, ni, ci, zs, ?_, q2, q3⟩
      by_cases hi0 : i = 0
      · subst hi0; simpa [Addr.add] using q1
      · simpa [Addr.add, hi0] using q1
theorem IsRowW.len {w : World} {a : Option Addr} {len cap : Nat} {zss : List (List Int)} (h : IsRowW w a len cap zss) : zss.length = len ∧ len ≤ 9223372036854775807 := by
  rcases h with ⟨_, rfl, _, rfl⟩ | ⟨x, _, h1, h2, h3, _⟩
  · exact ⟨rfl, by omega⟩
  · exact ⟨h3, by unfold maxLen at h2; omega⟩
theorem getD_map_len (zss : List (List Int)) (i : Nat) : (zss.map List.length).getD i 0 = (zss.getD i []).length := by
  rw [List.getD_eq_getElem?_getD, List.getElem?_map, List.getD_eq_getElem?_getD]
  cases zss[i]? <;> rfl
theorem IsRowW.heads {w : World} {a : Option Addr} {len cap : Nat} {zss : List (List Int)} (h : IsRowW w a len cap zss) : HeadsW w (.slice a len cap) (zss.map List.length) := by
  obtain ⟨hl, hm⟩ := h.len
  refine ⟨a, cap, by rw [List.length_map, hl], by rw [List.length_map]; omega, ?_⟩
  rcases Nat.eq_zero_or_pos len with h0 | h0
  · left
    have : zss = [] := List.length_eq_zero_iff.1 (by omega)
    rw [this]; rfl
  · obtain ⟨b, off, rfl, hb, _, _, hc⟩ := h.spot h0
    refine .inr ⟨b, off, rfl, hb, fun i hi => ?_⟩
    rw [List.length_map] at hi
    obtain ⟨ai, ni, ci, zs, q1, q2, q3⟩ := hc i (by omega)
    have e : (zss.map List.length).getD i 0 = ni := by rw [getD_map_len, q3, row_take_len q2]
    rw [e]
    exact ⟨ai, ci, q1, row_len q2⟩
theorem sumN_getD : ∀ (ns : List Nat) (i : Nat), i < ns.length → ns.getD i 0 ≤ sumN ns := by
  intro ns
  induction ns with
  | nil => intro i hi; simp at hi
  | cons n ns ih =>
    intro i hi
    cases i with
    | zero => simp [sumN]
    | succ i => have := ih i (by simpa using hi); simp only [List.getD_cons_succ, sumN]; omega
/-- A slice of slices of ints that came in can be read. -/
theorem IsRowW.read {w : World} {a : Option Addr} {len cap : Nat} {zss : List (List Int)} (h : IsRowW w a len cap zss) (hs : zss.length + sumN (zss.map List.length) ≤ 1048576) :
    ReadSS w.heap.size w (.slice a len cap) zss ∧ (∀ zs ∈ zss, InR zs) ∧ zss.length = len := by
  obtain ⟨hl, hm⟩ := h.len
  rcases Nat.eq_zero_or_pos len with h0 | h0
  · have hz : zss = [] := List.length_eq_zero_iff.1 (by omega)
    subst hz h0
    refine ⟨⟨by simp, a, cap, rfl, ?_, .inl rfl⟩, (fun zs hzs => (List.not_mem_nil hzs).elim), rfl⟩
    rcases h with ⟨rfl, _, rfl, _⟩ | ⟨x, rfl, h1, _⟩
    · exact ⟨fun _ => rfl, Nat.le_refl _⟩
    · exact ⟨(fun e => by cases e), Nat.zero_le _⟩
  · obtain ⟨b, off, rfl, hb, hcap, _, hc⟩ := h.spot h0
    have each : ∀ i, i < zss.length → ∃ u, w.cell? ⟨b, off + i, none⟩ = some u ∧ ReadI w.heap.size w u (zss.getD i []) ∧ InR (zss.getD i []) := fun i hi => by
      obtain ⟨ai, ni, ci, zs, q1, q2, q3⟩ := hc i (by omega)
      have hn : ni ≤ 1048576 := by
        have h1 := sumN_getD (zss.map List.length) i (by rw [List.length_map]; omega)
        rw [getD_map_len, q3, row_take_len q2] at h1
        omega
      obtain ⟨r1, r2, _⟩ := readI_row q2 hn
      exact ⟨_, q1, by rw [q3]; exact r1, by rw [q3]; exact r2⟩
    refine ⟨⟨by omega, _, cap, by rw [hl], ⟨(fun e => by cases e), by omega⟩, .inr ⟨b, off, rfl, hb, fun i hi => ?_⟩⟩, fun zs hzs => ?_, hl⟩
    · obtain ⟨u, h1, h2, _⟩ := each i hi
      exact ⟨u, h1, h2⟩
    · obtain ⟨i, hi, rfl⟩ := List.getElem_of_mem hzs
      obtain ⟨_, _, _, h3⟩ := each i hi
      rwa [List.getD_eq_getElem?_getD, List.getElem?_eq_getElem hi] at h3
theorem ReadSS.heads {w : World} {v : Value} {zss : List (List Int)} (h : ReadSS w.heap.size w v zss) : HeadsW w v (zss.map List.length) := by
  obtain ⟨hl, a, cap, rfl, hn, hc⟩ := h
  refine ⟨a, cap, by rw [List.length_map], by rw [List.length_map]; omega, ?_⟩
  rcases hc with rfl | ⟨b, off, rfl, hb, hcell⟩
  · exact .inl rfl
  · refine .inr ⟨b, off, rfl, hb, fun i hi => ?_⟩
    rw [List.length_map] at hi
    obtain ⟨u, h1, h2⟩ := hcell i hi
    obtain ⟨hzl, ai, ci, rfl, _⟩ := h2
    rw [getD_map_len]
    exact ⟨ai, ci, h1, by omega⟩
section
variable {H : Type} {enc : TypeId × Value → H} {W : World} {base : Nat} {v : Value} {d : DataW H} {p : List MemPlace}
theorem open_words {r : Reach} {b0 : Nat} (hv : Value.okWide Try.prog W r b0 22 v) (h : DataW.Trod enc Try.prog W 0 (fun _ => true) true 22 v d p) :
    ∃ (a : Option Addr) (len cap : Nat) (zss : List (List Int)), v = .slice a len cap ∧ IsRowW W a len cap zss := by
  obtain ⟨a, len, cap, rfl⟩ := okWide_slice Try.underlying22 hv
  obtain ⟨fuel, hf⟩ := h
  rcases open_slice Try.underlying22 hf with ⟨h2, _⟩ | ⟨x, l, c, m, n', D, Pl, h2, _, hlc, hcm, hm, _, hx⟩
  · simp [Value.cells] at h2
    obtain ⟨rfl, rfl, rfl⟩ := h2
    exact ⟨none, 0, 0, [], rfl, .inl ⟨rfl, rfl, rfl, rfl⟩⟩
  · simp [Value.cells] at h2
    obtain ⟨rfl, rfl, rfl⟩ := h2
    have hlm : len ≤ m := by rw [hm]; split <;> omega
    have ce : (Try.prog).cellsOf 23 = 1 := by kernel_rfl
    have each : ∀ i, i < len → ∃ q : Option Addr × Nat × Nat × List Int, W.cell? (x.add i) = some (.slice q.1 q.2.1 q.2.2.1) ∧ IsRow .i64 W q.1 q.2.1 q.2.2.1 q.2.2.2 := by
      intro i hi
      obtain ⟨cs', h1, h2⟩ := hx i (by omega)
      rw [ce] at h1
      obtain ⟨_, hlen, hcell⟩ := World.cells?_some h1
      match cs', hlen with
      | [u], _ =>
        have d0 := hcell 0 (by omega)
        have d1 : W.cell? (x.add i) = some u := by
          rw [Nat.mul_one] at d0
          simpa [Addr.add] using d0
        rcases open_ints Try.underlying23 Try.underlying3 (by kernel_rfl) h2 with ⟨hcs, _⟩ | ⟨y, l, c, zs, hcs, _, hl, hm', hz, _, hcell', hwz⟩
        · simp only [List.cons.injEq, and_true] at hcs
          subst hcs
          exact ⟨(none, 0, 0, []), d1, .inl ⟨rfl, rfl, rfl, rfl⟩⟩
        · simp only [List.cons.injEq, and_true] at hcs
          subst hcs
          exact ⟨(some y, l, c, zs), d1, .inr ⟨_, rfl, hl, hm', by simpa using hz, hcell', hwz⟩⟩
    obtain ⟨F, hF⟩ := choose_lt each
    refine ⟨some x, len, cap, (List.range len).map fun i => (F i).2.2.2.take (F i).2.1, rfl, .inr ⟨x, rfl, hlc, hcm, by simp, fun i hi => ?_⟩⟩
    obtain ⟨g0, g1⟩ := hF i hi
    exact ⟨_, _, _, _, g0, g1, by simp [List.getD_eq_getElem?_getD, hi]⟩
end
/-! ### toIntSS, szIntSS -/
theorem szIntS_any (w : World) (a : Option Addr) (n cap : Nat) (left : Int) (hn : n ≤ 9223372036854775807) (h0 : 0 ≤ left) (h1 : left ≤ 1048576) :
    Calls Try.prog 14 #[.slice a n cap, .int .i64 left] w fun e w' => e = .returned (.int .i64 (if left - (n : Int) < 0 then -1 else left - (n : Int))) ∧ w = w' := by
  by_cases h : left - (n : Int) < 0
  · rw [if_pos h]
    go_enter Try.func14, Try.ntmps14
    go_wp2
    go_ret
    exact ⟨rfl, rfl⟩
  · rw [if_neg h]
    go_enter Try.func14, Try.ntmps14
    go_wp2
    go_ret
    exact ⟨rfl, rfl⟩
set_option maxHeartbeats 1600000 in
theorem szSS_any (w : World) (v : Value) (ns : List Nat) (left : Int) (h : HeadsW w v ns) (h0 : 0 ≤ left) (h1 : left ≤ 1048576) :
    Calls Try.prog 4 #[v, .int .i64 left] w fun e w' => e = .returned (.int .i64 (if left - ((ns.length : Int) + (sumN ns : Nat)) < 0 then -1 else left - ((ns.length : Int) + (sumN ns : Nat)))) ∧ w = w' := by
  obtain ⟨a, cap, rfl, hl, hc⟩ := h
  obtain ⟨n, hn⟩ : ∃ n, n = ns.length := ⟨_, rfl⟩
  obtain ⟨tot, htot⟩ : ∃ t : Int, t = left - ((ns.length : Int) + (sumN ns : Nat)) := ⟨_, rfl⟩
  rw [← htot]
  rw [← hn] at hl htot ⊢
  obtain ⟨ans, hans⟩ : ∃ z, z = if tot < 0 then -1 else tot := ⟨_, rfl⟩
  rw [← hans]
  by_cases hneg : left - (n : Int) < 0
  · rw [if_pos (by omega)] at hans
    subst hans
    replace hc := hidI hc
    replace htot := hidI htot
    replace hn := hidI hn
    go_enter Try.func4, Try.ntmps4
    go_wp2
    go_ret
    exact ⟨rfl, rfl⟩
  · have hstart : left - (n : Int) = left - (n : Int) - (sumN (ns.take 0) : Nat) := by simp [sumN]
    replace hc := hidI hc
    replace htot := hidI htot
    replace hn := hidI hn
    replace hstart := hidI hstart
    replace hans := hidI hans
    go_enter Try.func4, Try.ntmps4
    go_wp2
    go_loopg [1, 5] n (fun g kk i wr => ∃ (k : Nat) (rem : Int), k + g = n ∧ i = .int .i64 k ∧ kk = .int .i64 rem ∧ Hid (rem = left - (n : Int) - (sumN (ns.take k) : Nat)) ∧ 0 ≤ rem ∧ Hid (wr = w))
    case atStart => exact ⟨0, _, by omega, rfl, rfl, hstart, by omega, hidI rfl⟩
    case round =>
      obtain ⟨k, rem, hk9, rfl, rfl, hrem, hrem0, hw⟩ := hrel
      have hw' := hw.out
      subst hw'
      have hremle : rem ≤ 1048576 := by rw [hrem.out]; omega
      by_cases hlt : k < n
      · have hki : (k : Int) < (n : Int) := by omega
        obtain ⟨b, off, ai, ci, rfl, hb, c, hni⟩ : ∃ b off ai ci, a = some ⟨b, off, none⟩ ∧ b < wr.heap.size ∧ wr.cell? ⟨b, off + k, none⟩ = some (.slice ai (ns.getD k 0) ci) ∧ ns.getD k 0 ≤ 9223372036854775807 := by
          rcases hc.out with h0 | ⟨b, off, ha, hb, hcell⟩
          · have := hn.out; rw [h0] at this; simp at this; omega
          · obtain ⟨ai, ci, q1, q2⟩ := hcell k (by have := hn.out; omega)
            exact ⟨b, off, ai, ci, ha, hb, q1, q2⟩
        have hst := sumN_take ns k (by have := hn.out; omega)
        have hsl := sumN_le ns (k + 1)
        obtain ⟨m, hm⟩ : ∃ m, m = ns.getD k 0 := ⟨_, rfl⟩
        rw [← hm] at c hni hst
        have hcall := szIntS_any wr ai m ci rem hni hrem0 hremle
        have hnx : rem - (m : Int) = left - (n : Int) - (sumN (ns.take (k + 1)) : Nat) := by rw [hrem.out, hst]; push_cast; omega
        by_cases hng : rem - (m : Int) < 0
        · rw [if_pos hng] at hcall
          have htn : tot < 0 := by rw [htot.out]; omega
          have hans9 := hans.out
          rw [if_pos htn] at hans9
          replace hans9 := hidI hans9
          replace htn := hidI htn
          replace hng := hidI hng
          replace hnx := hidI hnx
          replace hm := hidI hm
          replace hst := hidI hst
          replace hk9 := hidI hk9
          go_wp2_with fail
          refine hcall.mono ?_
          rintro e w3 ⟨rfl, rfl⟩
          clear hcall
          go_wp2
          go_ret
          exact ⟨ret_i hans9.out.symm, rfl⟩
        · rw [if_neg hng] at hcall
          obtain ⟨r2, hr2⟩ : ∃ r, r = rem - (m : Int) := ⟨_, rfl⟩
          rw [← hr2] at hcall hnx hng
          replace hr2 := hidI hr2
          replace hnx := hidI hnx
          replace hm := hidI hm
          replace hst := hidI hst
          replace hk9 := hidI hk9
          go_wp2_with fail
          refine hcall.mono ?_
          rintro e w3 ⟨rfl, rfl⟩
          clear hcall
          go_wp2
          go_roundg (n - (k + 1))
          case rel => exact ⟨k + 1, r2, by have := hk9.out; omega, by go_num, rfl, hnx, by omega, hidI rfl⟩
          case measure => have := hk9.out; omega
      · obtain rfl : k = n := by omega
        have hki : ¬ (k : Int) < (k : Int) := by omega
        have hfull : ns.take k = ns := List.take_of_length_le (by have := hn.out; omega)
        have he : rem = tot := by rw [hrem.out, hfull, htot.out]; omega
        have hans9 := hans.out
        rw [if_neg (by omega), ← he] at hans9
        replace hans9 := hidI hans9
        replace he := hidI he
        replace hfull := hidI hfull
        replace hk9 := hidI hk9
        go_wp2
        go_ret
        exact ⟨ret_i hans9.out.symm, rfl⟩
theorem szSS_law (w : World) (v : Value) (zss : List (List Int)) (left : Int) (h : HeadsW w v (zss.map List.length)) (h0 : 0 ≤ left) (h1 : left ≤ 1048576) :
    Calls Try.prog 4 #[v, .int .i64 left] w fun e w' => e = .returned (.int .i64 (if left - ((zss.length : Int) + (sumN (zss.map List.length) : Nat)) < 0 then -1 else left - ((zss.length : Int) + (sumN (zss.map List.length) : Nat)))) ∧ w = w' := by
  have := szSS_any w v _ left h h0 h1
  rwa [List.length_map] at this
theorem words_le {zss : List (List Int)} (h : sumN (zss.map List.length) ≤ 1048576) : ∀ i, i < zss.length → (zss.getD i []).length ≤ 1000000000 := fun i hi => by
  have h1 := sumN_getD (zss.map List.length) i (by rw [List.length_map]; exact hi)
  rw [getD_map_len] at h1
  omega
/-- Slices that a call made one after the other, each in a block of its own. -/
def Climb (w : World) (lo : Nat) (us : List Value) (zss : List (List Int)) : Prop :=
  (∀ i, i < us.length → RowI w lo w.heap.size (us.getD i undef) (zss.getD i [])) ∧ us.Pairwise (fun p q => ∀ b c, p.ownBlock = some b → q.ownBlock = some c → b < c)
theorem Climb.keep {w w' : World} {lo : Nat} {us : List Value} {zss : List (List Int)} (h : Climb w lo us zss) (hs : w.heap.size ≤ w'.heap.size) (hb : ∀ b, lo ≤ b → b < w.heap.size → w'.heap[b]? = w.heap[b]?) : Climb w' lo us zss :=
  ⟨fun i hi => ((h.1 i hi).keep hb).wide (Nat.le_refl _) hs, h.2⟩
theorem Climb.snoc {w : World} {lo s : Nat} {us : List Value} {zss : List (List Int)} {u : Value} (h : Climb w lo us zss) (hus : ∀ x ∈ us, ∀ b, x.ownBlock = some b → b < s) (hlo : lo ≤ s) (hu : RowI w s w.heap.size u (zss.getD us.length [])) : Climb w lo (us ++ [u]) zss := by
  refine ⟨fun i hi => ?_, ?_⟩
  · rw [List.length_append, List.length_singleton] at hi
    rcases Nat.lt_or_ge i us.length with h1 | h1
    · rw [List.getD_eq_getElem?_getD, List.getElem?_append_left h1, ← List.getD_eq_getElem?_getD]; exact h.1 i h1
    · obtain rfl : i = us.length := by omega
      rw [List.getD_eq_getElem?_getD, List.getElem?_append_right (Nat.le_refl _), Nat.sub_self]
      exact hu.wide hlo (Nat.le_refl _)
  · rw [List.pairwise_append]
    refine ⟨h.2, List.pairwise_singleton _ _, fun p hp q hq b c hb hc => ?_⟩
    rw [List.mem_singleton] at hq
    subst hq
    have := hus p hp b hb
    rcases hu.block with ⟨e1, _⟩ | ⟨d, e1, e2, e3, _⟩
    · rw [e1] at hc; cases hc
    · rw [e1] at hc; cases hc; omega
theorem Climb.lt {w : World} {lo : Nat} {us : List Value} {zss : List (List Int)} (h : Climb w lo us zss) : ∀ x ∈ us, ∀ b, x.ownBlock = some b → lo ≤ b ∧ b < w.heap.size := by
  intro x hx b hb
  obtain ⟨i, hi, rfl⟩ := List.getElem_of_mem hx
  have := h.1 i hi
  rw [List.getD_eq_getElem?_getD, List.getElem?_eq_getElem hi] at this
  rcases this.block with ⟨e1, _⟩ | ⟨d, e1, e2, e3, _⟩
  · simp only [Option.getD_some] at e1; rw [e1] at hb; cases hb
  · simp only [Option.getD_some] at e1; rw [e1] at hb; cases hb; exact ⟨e2, e3⟩
theorem climb_apart {us : List Value} (h : us.Pairwise (fun p q => ∀ b c, p.ownBlock = some b → q.ownBlock = some c → b < c)) : ∀ i j b, i < us.length → j < us.length → i ≠ j → (us.getD i undef).ownBlock = some b → (us.getD j undef).ownBlock ≠ some b := by
  intro i j b hi hj hij hb hc
  rw [List.getD_eq_getElem?_getD, List.getElem?_eq_getElem hi] at hb
  rw [List.getD_eq_getElem?_getD, List.getElem?_eq_getElem hj] at hc
  rw [List.pairwise_iff_getElem] at h
  rcases Nat.lt_or_gt_of_ne hij with h1 | h1
  · exact absurd (h i j hi hj h1 b b hb hc) (by omega)
  · exact absurd (h j i hj hi h1 b b hc hb) (by omega)
theorem rowI_form {w : World} {lo hi : Nat} {v : Value} {zs : List Int} (h : RowI w lo hi v zs) : ∃ a m c, v = Value.slice a m c := by
  obtain ⟨_, ⟨h1, _⟩ | ⟨g, off, cap, cur, h1, _⟩⟩ := h <;> exact ⟨_, _, _, h1⟩
/-- The copy of a list of lists: the copies of the first ones, then empty cells. -/
def padV (us : List Value) (n : Nat) : List Value := us ++ List.replicate (n - us.length) (.slice none 0 0)
theorem padV_set {us : List Value} {n : Nat} (u : Value) (h : us.length < n) : (padV us n).set us.length u = padV (us ++ [u]) n := by
  unfold padV
  rw [List.set_append_right _ _ (Nat.le_refl _), Nat.sub_self, show n - us.length = (n - (us ++ [u]).length) + 1 by simp; omega, List.replicate_succ, List.set_cons_zero, List.append_assoc]
  rfl
set_option maxHeartbeats 1600000 in
theorem toSS_any (w : World) (v : Value) (zss : List (List Int)) (h : ReadSS w.heap.size w v zss) (hl : zss.length ≤ 1000000000) (hz : ∀ i, i < zss.length → (zss.getD i []).length ≤ 1000000000) :
    Calls Try.prog 6 #[v] w (LwWords w zss) := by
  have h' := h
  obtain ⟨_, a, cap, rfl, _, _⟩ := h'
  obtain ⟨n, hn⟩ : ∃ n, n = zss.length := ⟨_, rfl⟩
  obtain ⟨i0, hi, hz0, hz1, hz2⟩ := info_parts infoSl
  rw [← hn] at hl h ⊢
  replace hn := hidI hn
  replace h := hidI h
  replace hz := hidI hz
  go_enter Try.func6, Try.ntmps6
  go_wp2_with (at_make; go_must (refine wpList_make_full _ rfl _ _ 22 rfl w.heap.size 23 i0 (.slice none 0 0) 1 Try.underlying22 hi hz0 hz1 .i64 .i64 _ _ n rfl rfl rfl rfl ?c1 ?c2 ?c3 ?_))
  case c1 => rw [hz2]; omega
  case c2 => unfold maxLen; omega
  case c3 => exact Nat.le_refl _
  intro w1 hown hg
  rw [toList_madeCells_one] at hown
  have hb := (Below.refl w.heap.size w).grown hg (Nat.le_refl _) (by intro k hk; cases hk)
  have hlt1 : w.heap.size < w1.heap.size := (World.ownsRow.lt hown _ rfl).2
  clear hg hi hz0 hz1 hz2
  have hst0 : Hid (∃ us : List Value, us.length = 0 ∧ w1.ownsRow w.heap.size 23 1 (.slice (some ⟨w.heap.size, 0, none⟩) n n) n (padV us n) ∧ Climb w1 (w.heap.size + 1) us zss) :=
    hidI ⟨[], rfl, hown, ⟨fun i hi => by simp at hi, List.Pairwise.nil⟩⟩
  clear hown
  go_wp2
  go_loopg [4] n (fun g i wr => ∃ k : Nat, k + g = n ∧ i = .int .i64 k ∧ Hid (∃ us : List Value, us.length = k ∧ wr.ownsRow w.heap.size 23 1 (.slice (some ⟨w.heap.size, 0, none⟩) n n) n (padV us n) ∧ Climb wr (w.heap.size + 1) us zss) ∧ Below w.heap.size w wr ∧ w.heap.size < wr.heap.size)
  case atStart => exact ⟨0, by omega, rfl, hst0, hb, hlt1⟩
  case round =>
    clear hst0 hb hlt1
    obtain ⟨k, hk, rfl, hst, hb, hlw⟩ := hrel
    obtain ⟨us, hul, hown, hcl⟩ := hst.out
    by_cases hlt : k < n
    · have hki : (k : Int) < (n : Int) := by omega
      obtain ⟨b, off, u, rfl, hB, c, r⟩ := h.out.at_ k (by have := hn.out; omega)
      have c' : wr.cell? ⟨b, off + k, none⟩ = some u := by rw [hb.cell (p := ⟨b, off + k, none⟩) hB]; exact c
      have hcall := toIntS_any wr u _ ((r.below hb).mono hb.size) (hz.out k (by have := hn.out; omega))
      clear c r
      replace hk := hidI hk
      replace hul := hidI hul
      replace hown := hidI hown
      replace hcl := hidI hcl
      go_wp2_with fail
      refine hcall.mono ?_
      rintro e w2 ⟨u2, rfl, hrow, hb2⟩
      obtain ⟨a2, m2, c2, rfl⟩ := rowI_form hrow
      have hown2 : w2.ownsRow w.heap.size 23 1 (.slice (some ⟨w.heap.size, 0, none⟩) n n) n (padV us n) := by
        obtain ⟨q1, q2 | ⟨g, cap', cur, e, hg, hh, hr⟩⟩ := hown.out
        · exact ⟨q1, .inl q2⟩
        · cases e
          exact ⟨q1, .inr ⟨_, _, cur, rfl, hg, (hb2.block _ hlw).trans hh, hr⟩⟩
      obtain ⟨x0, hx0⟩ : ∃ x, w2.cell? ⟨w.heap.size, k, none⟩ = some x := by
        rw [hown2.cellAt k (by omega)]
        exact ⟨_, List.getElem?_eq_getElem (by unfold padV; rw [List.length_append, List.length_replicate, hul.out]; omega)⟩
      have hf0 := hown2.frozenAt k
      have hs := (hown2.stored k (.slice a2 m2 c2)).1
      rw [show (padV us n).set k (.slice a2 m2 c2) = padV (us ++ [.slice a2 m2 c2]) n by rw [← padV_set _ (by rw [hul.out]; exact hlt), hul.out]] at hs
      obtain ⟨w3, hw3⟩ : ∃ z, z = w2.setCell ⟨w.heap.size, k, none⟩ (.slice a2 m2 c2) := ⟨_, rfl⟩
      have hsz3 : w3.heap.size = w2.heap.size := by rw [hw3]; simp [World.setCell]
      have hoth : ∀ q, q ≠ w.heap.size → w3.heap[q]? = w2.heap[q]? := fun q hq => by rw [hw3]; exact heap_setCell_other _ _ _ _ hq
      have hb3 : Below w.heap.size w w3 := by rw [hw3]; exact (hb.trans (hb2.mono hb.size)).setCell (Nat.le_refl _) _
      have hcl3 : Climb w3 (w.heap.size + 1) (us ++ [.slice a2 m2 c2]) zss := by
        have h1 : Climb w3 (w.heap.size + 1) us zss := hcl.out.keep (by rw [hsz3]; exact hb2.size) (fun q q1 q2 => by rw [hoth q (by omega)]; exact hb2.block q q2)
        refine h1.snoc (s := wr.heap.size) (fun x hx q hq => (hcl.out.lt x hx q hq).2) (by omega) ?_
        rw [hul.out, hsz3]
        exact hrow.keep (fun q q1 q2 => hoth q (by omega))
      have hst3 : Hid (∃ us : List Value, us.length = k + 1 ∧ w3.ownsRow w.heap.size 23 1 (.slice (some ⟨w.heap.size, 0, none⟩) n n) n (padV us n) ∧ Climb w3 (w.heap.size + 1) us zss) :=
        hidI ⟨us ++ [.slice a2 m2 c2], by simp [hul.out], by rw [hw3]; exact hs, hcl3⟩
      have hlw3 : w.heap.size < w3.heap.size := by rw [hsz3]; have := hb2.size; omega
      rw [hw3] at hst3 hb3 hlw3
      replace hown2 := hidI hown2
      replace hst3 := hidI hst3
      replace hb3 := hidI hb3
      replace hlw3 := hidI hlw3
      clear hcall hown hb hb2 hrow hcl hcl3 hoth hsz3 hs hw3 hst
      go_wp2
      go_roundg (n - (k + 1))
      case rel => exact ⟨k + 1, by have := hk.out; omega, by go_num, hst3.out, hb3.out, hlw3.out⟩
      case measure => have := hk.out; omega
    · obtain rfl : k = n := by omega
      have hpad : padV us k = us := by unfold padV; rw [hul, Nat.sub_self, List.replicate_zero, List.append_nil]
      rw [hpad] at hown
      have hw9 : OwnsW wr w.heap.size (.slice (some ⟨w.heap.size, 0, none⟩) k k) us := by unfold OwnsW; rw [hul]; exact hown
      have hr : LwWords w zss (.returned (.slice (some ⟨w.heap.size, 0, none⟩) k k)) wr := by
        refine ⟨_, us, rfl, OwnsW.rowSS hw9 (Nat.le_refl _) (Nat.le_refl _) (by have := hn.out; omega) (by have := hn.out; omega) (fun i b hi hb' he => ?_) (fun i hi => (hcl.1 i hi).wide (by omega) (Nat.le_refl _)) (climb_apart hcl.2), hb⟩
        cases he
        have hm : us.getD i undef ∈ us := by rw [List.getD_eq_getElem?_getD, List.getElem?_eq_getElem hi]; exact List.getElem_mem hi
        have h9 := (hcl.lt _ hm _ hb').1
        exact absurd h9 (by simp)
      have hki : ¬ (k : Int) < (k : Int) := by omega
      replace hr := hidI hr
      clear hown hcl hw9 hpad hst
      replace hk := hidI hk
      replace hul := hidI hul
      go_wp2
      go_ret
      exact hr.out
end Go.Proofs.Ytpjlamnjiilgbaa
