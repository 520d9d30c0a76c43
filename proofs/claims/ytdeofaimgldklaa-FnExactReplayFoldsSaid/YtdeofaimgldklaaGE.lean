/- Edges as lists, and what the row's step knows of a graph or an edge that came in. -/
import Derived.Test.YtdeofaimgldklaaGD
import Derived.Lib.SmallJoins
import Derived.Deep.Slices
import Derived.ChangeSame
import Derived.OpenShut
namespace Go.Proofs.Ytdeofaimgldklaa
open Go.RowKit Go.ChangeShapes Go.WideShapes Go.Deep
set_option linter.unusedVariables false
set_option maxRecDepth 100000

/-- An edge: from, letter, to. -/
abbrev Ed := Int × Int × Int
def e0 : Ed := (0, 0, 0)
/-- The ints of a list of edges. -/
def flatE : List Ed → List Int
  | [] => []
  | e :: es => e.1 :: e.2.1 :: e.2.2 :: flatE es
theorem flatE_length : ∀ es : List Ed, (flatE es).length = es.length * 3 := by
  intro es
  induction es with
  | nil => rfl
  | cons e es ih => simp only [flatE, List.length_cons, ih]; omega
theorem flatE_append (a b : List Ed) : flatE (a ++ b) = flatE a ++ flatE b := by
  induction a with
  | nil => rfl
  | cons e a ih => simp only [List.cons_append, flatE, ih]
theorem flatE_at : ∀ (es : List Ed) (i : Nat), i < es.length → (flatE es).getD (i * 3) 0 = (es.getD i e0).1 ∧ (flatE es).getD (i * 3 + 1) 0 = (es.getD i e0).2.1 ∧ (flatE es).getD (i * 3 + 2) 0 = (es.getD i e0).2.2 := by
  intro es
  induction es with
  | nil => intro i h; simp at h
  | cons e es ih =>
    intro i h
    cases i with
    | zero => simp [flatE]
    | succ i =>
      have := ih i (by simpa using h)
      rw [show (i + 1) * 3 = i * 3 + 1 + 1 + 1 by omega]
      simpa [flatE] using this
def InE (es : List Ed) : Prop := ∀ e ∈ es, (-9223372036854775808 ≤ e.1 ∧ e.1 ≤ 9223372036854775807) ∧ (-9223372036854775808 ≤ e.2.1 ∧ e.2.1 ≤ 9223372036854775807) ∧ (-9223372036854775808 ≤ e.2.2 ∧ e.2.2 ≤ 9223372036854775807)
theorem InE.at_ {es : List Ed} (h : InE es) {i : Nat} (hi : i < es.length) : (-9223372036854775808 ≤ (es.getD i e0).1 ∧ (es.getD i e0).1 ≤ 9223372036854775807) ∧ (-9223372036854775808 ≤ (es.getD i e0).2.1 ∧ (es.getD i e0).2.1 ≤ 9223372036854775807) ∧ (-9223372036854775808 ≤ (es.getD i e0).2.2 ∧ (es.getD i e0).2.2 ≤ 9223372036854775807) := by
  apply h
  rw [List.getD_eq_getElem?_getD, List.getElem?_eq_getElem hi]
  exact List.getElem_mem hi
/-- v can be read as the edges es. -/
abbrev ReadE (B : Nat) (w : World) (v : Value) (es : List Ed) : Prop := ReadS 3 B w v es.length (flatE es)
/-- The three cells of an edge. -/
theorem ReadE.at3 {B : Nat} {w : World} {a : Option Addr} {n cap : Nat} {es : List Ed} (h : ReadE B w (.slice a n cap) es) (i : Nat) (hi : i < es.length) :
    ∃ b off, a = some ⟨b, off, none⟩ ∧ b < B ∧ w.cell? ⟨b, off + i * 3, none⟩ = some (.int .i64 (es.getD i e0).1) ∧ w.cell? ⟨b, off + i * 3 + 1, none⟩ = some (.int .i64 (es.getD i e0).2.1) ∧ w.cell? ⟨b, off + i * 3 + 2, none⟩ = some (.int .i64 (es.getD i e0).2.2) := by
  obtain ⟨b, off, ha, hB, hc⟩ := h.at_ i hi
  obtain ⟨h0, h1, h2⟩ := flatE_at es i hi
  have c0 := hc 0 (by omega)
  rw [Nat.add_zero, Nat.add_zero, h0] at c0
  have c1 := hc 1 (by omega)
  rw [h1] at c1
  have c2 := hc 2 (by omega)
  rw [h2] at c2
  exact ⟨b, off, ha, hB, c0, c1, c2⟩
/-- A slice of edges that came in. -/
def IsRowE (w : World) (a : Option Addr) (len cap : Nat) (es : List Ed) : Prop :=
  (a = none ∧ len = 0 ∧ cap = 0 ∧ es = []) ∨ ∃ x, a = some x ∧ len ≤ cap ∧ cap ≤ maxLen ∧ es.length = len ∧ InE es ∧
    ∀ i, i < len → w.cell? (x.add (i * 3)) = some (.int .i64 (es.getD i e0).1) ∧ w.cell? (x.add (i * 3 + 1)) = some (.int .i64 (es.getD i e0).2.1) ∧ w.cell? (x.add (i * 3 + 2)) = some (.int .i64 (es.getD i e0).2.2)
theorem IsRowE.len {w : World} {a : Option Addr} {len cap : Nat} {es : List Ed} (h : IsRowE w a len cap es) : es.length = len ∧ InE es ∧ (len : Int) ≤ 9223372036854775807 := by
  rcases h with ⟨_, rfl, _, rfl⟩ | ⟨x, _, h1, h2, h3, h4, _⟩
  · exact ⟨rfl, (fun e h => by cases h), by omega⟩
  · exact ⟨h3, h4, by unfold maxLen at h2; omega⟩
theorem IsRowE.read {w : World} {a : Option Addr} {len cap : Nat} {es : List Ed} (h : IsRowE w a len cap es) (hl : len ≤ 1048576) : ReadE w.heap.size w (.slice a len cap) es := by
  rcases h with ⟨rfl, rfl, rfl, rfl⟩ | ⟨x, rfl, h1, h2, h3, h4, hc⟩
  · exact ⟨rfl, by simp, none, 0, rfl, ⟨fun _ => rfl, Nat.le_refl _⟩, .inl rfl⟩
  · refine ⟨flatE_length es, by omega, some x, cap, by rw [h3], ⟨(fun e => by cases e), by omega⟩, ?_⟩
    rcases Nat.eq_zero_or_pos len with h0 | h0
    · left; omega
    · right
      have c0 := (hc 0 h0).1
      obtain ⟨b, off, spot⟩ := x
      have hspot : spot = none := by simpa [Addr.add] using World.cell?_spot c0
      subst hspot
      refine ⟨b, off, rfl, ?_, fun k hk => ?_⟩
      · have c0' : w.cell? ⟨b, off, none⟩ = some (.int .i64 (es.getD 0 e0).1) := by simpa [Addr.add] using c0
        rcases Nat.lt_or_ge b w.heap.size with h1 | h1
        · exact h1
        · unfold World.cell? at c0'
          rw [show w.heap[(⟨b, off, none⟩ : Addr).block]? = none from Array.getElem?_eq_none h1] at c0'
          cases c0'
      · obtain ⟨i, j, hj, rfl⟩ : ∃ i j, j < 3 ∧ k = i * 3 + j := ⟨k / 3, k % 3, Nat.mod_lt _ (by omega), by omega⟩
        have hi : i < len := by omega
        obtain ⟨d0, d1, d2⟩ := hc i hi
        obtain ⟨g0, g1, g2⟩ := flatE_at es i (by omega)
        have key : ∀ m z, w.cell? ((⟨b, off, none⟩ : Addr).add m) = some (.int .i64 z) → w.cell? ⟨b, off + m, none⟩ = some (.int .i64 z) := by
          intro m z hm
          by_cases hm0 : m = 0
          · subst hm0; simpa [Addr.add] using hm
          · simpa [Addr.add, hm0] using hm
        have hj3 : j = 0 ∨ j = 1 ∨ j = 2 := by omega
        rcases hj3 with rfl | rfl | rfl
        · rw [Nat.add_zero, g0]; exact key _ _ d0
        · rw [g1]; exact key _ _ d1
        · rw [g2]; exact key _ _ d2
section
variable {H : Type} {enc : TypeId × Value → H} {W : World} {base : Nat} {v : Value} {d : DataW H} {p : List MemPlace}
theorem open_edge {r : Reach} {b0 : Nat} (hv : Value.okWide Try.prog W r b0 82 v) (h : DataW.Trod enc Try.prog W 0 (fun _ => true) true 82 v d p) :
    ∃ f l t : Int, v = .agg #[.int .i64 f, .int .i64 l, .int .i64 t] ∧ (Lit.int .i64 f).wf = true ∧ (Lit.int .i64 l).wf = true ∧ (Lit.int .i64 t).wf = true := by
  obtain ⟨v0, v1, v2, y0, y1, y2, n, rfl, _, _, t0, t1, t2⟩ := Go.Joins.open_agg3 Try.underlying82 (by kernel_rfl) (by kernel_rfl) hv h
  obtain ⟨f, hf, _, wf⟩ := DataW.trod_int Try.underlying3 t0
  obtain ⟨l, hl, _, wl⟩ := DataW.trod_int Try.underlying3 t1
  obtain ⟨t, ht, _, wt⟩ := DataW.trod_int Try.underlying3 t2
  simp only [List.cons.injEq, and_true] at hf hl ht
  subst hf hl ht
  exact ⟨f, l, t, rfl, wf, wl, wt⟩
theorem open_graph {r : Reach} {b0 : Nat} (hv : Value.okWide Try.prog W r b0 24 v) (h : DataW.Trod enc Try.prog W 0 (fun _ => true) true 24 v d p) :
    ∃ (r s : Int) (a : Option Addr) (len cap : Nat) (es : List Ed), v = .agg #[.int .i64 r, .int .i64 s, .slice a len cap] ∧ (Lit.int .i64 r).wf = true ∧ (Lit.int .i64 s).wf = true ∧ IsRowE W a len cap es := by
  obtain ⟨v0, v1, v2, y0, y1, y2, n, rfl, _, _, t0, t1, t2⟩ := Go.Joins.open_agg3 Try.underlying24 (by kernel_rfl) (by kernel_rfl) hv h
  obtain ⟨r, hr, _, wr⟩ := DataW.trod_int Try.underlying3 t0
  obtain ⟨s, hs, _, ws⟩ := DataW.trod_int Try.underlying3 t1
  simp only [List.cons.injEq, and_true] at hr hs
  subst hr hs
  rcases open_slice Try.underlying22 t2 with ⟨h2, _⟩ | ⟨x, len, cap, m, n', D, Pl, h2, _, hlc, hcm, hm, _, hx⟩
  · simp only [List.cons.injEq, and_true] at h2
    subst h2
    exact ⟨r, s, none, 0, 0, [], rfl, wr, ws, .inl ⟨rfl, rfl, rfl, rfl⟩⟩
  · simp only [List.cons.injEq, and_true] at h2
    subst h2
    have hlm : len ≤ m := by rw [hm]; split <;> omega
    have ce : (Try.prog).cellsOf 82 = 3 := by kernel_rfl
    have c1 : (Try.prog).cellsOf 3 = 1 := by kernel_rfl
    have each : ∀ i, i < len → ∃ e : Ed, W.cell? (x.add (i * 3)) = some (.int .i64 e.1) ∧ W.cell? (x.add (i * 3 + 1)) = some (.int .i64 e.2.1) ∧ W.cell? (x.add (i * 3 + 2)) = some (.int .i64 e.2.2) ∧
        (Lit.int .i64 e.1).wf = true ∧ (Lit.int .i64 e.2.1).wf = true ∧ (Lit.int .i64 e.2.2).wf = true := by
      intro i hi
      obtain ⟨cs', h1, h2⟩ := hx i (by omega)
      rw [ce] at h1
      obtain ⟨_, hlen, hcell⟩ := World.cells?_some h1
      obtain ⟨y0, y1, y2, n2, _, _, q0, q1, q2⟩ := trod_struct3 Try.underlying82 h2
      match cs', hlen with
      | [v0, v1, v2], _ =>
        simp [c1] at q0 q1 q2
        obtain ⟨f, hf, _, wf⟩ := DataW.trod_int Try.underlying3 q0
        obtain ⟨l, hl, _, wl⟩ := DataW.trod_int Try.underlying3 q1
        obtain ⟨t, ht, _, wt⟩ := DataW.trod_int Try.underlying3 q2
        simp only [List.cons.injEq, and_true] at hf hl ht
        subst hf hl ht
        have d0 := hcell 0 (by omega)
        have d1 := hcell 1 (by omega)
        have d2 := hcell 2 (by omega)
        rw [add_add] at d0 d1 d2
        exact ⟨(f, l, t), by simpa using d0, by simpa using d1, by simpa using d2, wf, wl, wt⟩
    obtain ⟨F, hF⟩ := choose_lt each
    refine ⟨r, s, some x, len, cap, (List.range len).map F, rfl, wr, ws, .inr ⟨x, rfl, hlc, hcm, by simp, ?_, fun i hi => ?_⟩⟩
    · intro e he
      obtain ⟨i, hi, rfl⟩ := List.mem_map.1 he
      obtain ⟨_, _, _, g0, g1, g2⟩ := hF i (List.mem_range.1 hi)
      exact ⟨bounds_i64 g0, bounds_i64 g1, bounds_i64 g2⟩
    · have e : ((List.range len).map F).getD i e0 = F i := by simp [List.getD_eq_getElem?_getD, hi]
      rw [e]
      obtain ⟨g0, g1, g2, _⟩ := hF i hi
      exact ⟨g0, g1, g2⟩
end
end Go.Proofs.Ytdeofaimgldklaa
