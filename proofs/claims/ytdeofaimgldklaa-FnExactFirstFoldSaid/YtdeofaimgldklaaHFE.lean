/- Lists of Fold, and what the row's step knows of one or of a slice of them that came in. (tools/flat.py) -/
import Derived.Test.YtdeofaimgldklaaHFC
import Derived.Test.YtdeofaimgldklaaGE
namespace Go.Proofs.Ytdeofaimgldklaa
open Go.RowKit Go.ChangeShapes Go.WideShapes Go.Deep
set_option linter.unusedVariables false
set_option maxRecDepth 100000

abbrev tupF := Int × Int
def zeroF : tupF := (0, 0)
def flatF : List tupF → List Int
  | [] => []
  | e :: es => e.1 :: e.2 :: flatF es
theorem flatF_length : ∀ es : List tupF, (flatF es).length = es.length * 2 := by
  intro es
  induction es with
  | nil => rfl
  | cons e es ih => simp only [flatF, List.length_cons, ih]; omega
theorem flatF_append (a b : List tupF) : flatF (a ++ b) = flatF a ++ flatF b := by
  induction a with
  | nil => rfl
  | cons e a ih => simp only [List.cons_append, flatF, ih]
theorem flatF_at : ∀ (es : List tupF) (i : Nat), i < es.length → (flatF es).getD (i * 2) 0 = (es.getD i zeroF).1 ∧ (flatF es).getD (i * 2 + 1) 0 = (es.getD i zeroF).2 := by
  intro es
  induction es with
  | nil => intro i h; simp at h
  | cons e es ih =>
    intro i h
    cases i with
    | zero => simp [flatF]
    | succ i =>
      have := ih i (by simpa using h)
      rw [show (i + 1) * 2 = i * 2 + 1 + 1 by omega]
      simpa [flatF] using this
def InF (es : List tupF) : Prop := ∀ e ∈ es, (-9223372036854775808 ≤ e.1 ∧ e.1 ≤ 9223372036854775807) ∧ (-9223372036854775808 ≤ e.2 ∧ e.2 ≤ 9223372036854775807)
theorem InF.at_ {es : List tupF} (h : InF es) {i : Nat} (hi : i < es.length) : (-9223372036854775808 ≤ (es.getD i zeroF).1 ∧ (es.getD i zeroF).1 ≤ 9223372036854775807) ∧ (-9223372036854775808 ≤ (es.getD i zeroF).2 ∧ (es.getD i zeroF).2 ≤ 9223372036854775807) := by
  apply h
  rw [List.getD_eq_getElem?_getD, List.getElem?_eq_getElem hi]
  exact List.getElem_mem hi
abbrev ReadF (B : Nat) (w : World) (v : Value) (es : List tupF) : Prop := ReadS 2 B w v es.length (flatF es)
theorem ReadF.cells {B : Nat} {w : World} {a : Option Addr} {n cap : Nat} {es : List tupF} (h : ReadF B w (.slice a n cap) es) (i : Nat) (hi : i < es.length) :
    ∃ b off, a = some ⟨b, off, none⟩ ∧ b < B ∧ w.cell? ⟨b, off + i * 2, none⟩ = some (.int .i64 (es.getD i zeroF).1) ∧ w.cell? ⟨b, off + i * 2 + 1, none⟩ = some (.int .i64 (es.getD i zeroF).2) := by
  obtain ⟨b, off, ha, hB, hc⟩ := h.at_ i hi
  obtain ⟨h0, h1⟩ := flatF_at es i hi
  have c0 := hc 0 (by omega)
  rw [Nat.add_zero, Nat.add_zero, h0] at c0
  have c1 := hc 1 (by omega)
  rw [h1] at c1
  exact ⟨b, off, ha, hB, c0, c1⟩
/-- A slice that came in. -/
def IsRowF (w : World) (a : Option Addr) (len cap : Nat) (es : List tupF) : Prop :=
  (a = none ∧ len = 0 ∧ cap = 0 ∧ es = []) ∨ ∃ x, a = some x ∧ len ≤ cap ∧ cap ≤ maxLen ∧ es.length = len ∧ InF es ∧
    ∀ i, i < len → w.cell? (x.add (i * 2)) = some (.int .i64 (es.getD i zeroF).1) ∧ w.cell? (x.add (i * 2 + 1)) = some (.int .i64 (es.getD i zeroF).2)
theorem IsRowF.len {w : World} {a : Option Addr} {len cap : Nat} {es : List tupF} (h : IsRowF w a len cap es) : es.length = len ∧ InF es ∧ (len : Int) ≤ 9223372036854775807 := by
  rcases h with ⟨_, rfl, _, rfl⟩ | ⟨x, _, h1, h2, h3, h4, _⟩
  · exact ⟨rfl, (fun e h => by cases h), by omega⟩
  · exact ⟨h3, h4, by unfold maxLen at h2; omega⟩
theorem IsRowF.read {w : World} {a : Option Addr} {len cap : Nat} {es : List tupF} (h : IsRowF w a len cap es) (hl : len ≤ 1048576) : ReadF w.heap.size w (.slice a len cap) es := by
  rcases h with ⟨rfl, rfl, rfl, rfl⟩ | ⟨x, rfl, h1, h2, h3, h4, hc⟩
  · exact ⟨rfl, by simp, none, 0, rfl, ⟨fun _ => rfl, Nat.le_refl _⟩, .inl rfl⟩
  · refine ⟨flatF_length es, by omega, some x, cap, by rw [h3], ⟨(fun e => by cases e), by omega⟩, ?_⟩
    rcases Nat.eq_zero_or_pos len with h0 | h0
    · left; omega
    · right
      have c0 := (hc 0 h0).1
      obtain ⟨b, off, spot⟩ := x
      have hspot : spot = none := by simpa [Addr.add] using World.cell?_spot c0
      subst hspot
      refine ⟨b, off, rfl, ?_, fun k hk => ?_⟩
      · have c0' : w.cell? ⟨b, off, none⟩ = some (.int .i64 (es.getD 0 zeroF).1) := by simpa [Addr.add] using c0
        rcases Nat.lt_or_ge b w.heap.size with h1 | h1
        · exact h1
        · unfold World.cell? at c0'
          rw [show w.heap[(⟨b, off, none⟩ : Addr).block]? = none from Array.getElem?_eq_none h1] at c0'
          cases c0'
      · obtain ⟨i, j, hj, rfl⟩ : ∃ i j, j < 2 ∧ k = i * 2 + j := ⟨k / 2, k % 2, Nat.mod_lt _ (by omega), by omega⟩
        have hi : i < len := by omega
        obtain ⟨d0, d1⟩ := hc i hi
        obtain ⟨g0, g1⟩ := flatF_at es i (by omega)
        have key : ∀ m z, w.cell? ((⟨b, off, none⟩ : Addr).add m) = some (.int .i64 z) → w.cell? ⟨b, off + m, none⟩ = some (.int .i64 z) := by
          intro m z hm
          by_cases hm0 : m = 0
          · subst hm0; simpa [Addr.add] using hm
          · simpa [Addr.add, hm0] using hm
        have hjs : j = 0 ∨ j = 1 := by omega
        rcases hjs with rfl | rfl
        · rw [Nat.add_zero, g0]; exact key _ _ d0
        · rw [g1]; exact key _ _ d1
section
variable {H : Type} {enc : TypeId × Value → H} {W : World} {base : Nat} {v : Value} {d : DataW H} {p : List MemPlace}
theorem open_F {r : Reach} {b0 : Nat} (hv : Value.okWide Try.prog W r b0 37 v) (h : DataW.Trod enc Try.prog W 0 (fun _ => true) true 37 v d p) :
    ∃ x0 x1 : Int, v = .agg #[.int .i64 x0, .int .i64 x1] ∧ (Lit.int .i64 x0).wf = true ∧ (Lit.int .i64 x1).wf = true := by
  obtain ⟨v0, v1, q0, q1, n, rfl, _, _, t0, t1⟩ := Go.Joins.open_agg2 Try.underlying37 (by kernel_rfl) (by kernel_rfl) hv h
  obtain ⟨x0, hx0, _, w0⟩ := DataW.trod_int Try.underlying3 t0
  obtain ⟨x1, hx1, _, w1⟩ := DataW.trod_int Try.underlying3 t1
  simp only [List.cons.injEq, and_true] at hx0 hx1
  subst hx0 hx1
  exact ⟨x0, x1, rfl, w0, w1⟩
end
section
variable {H : Type} {enc : TypeId × Value → H} {W : World} {base : Nat} {v : Value} {d : DataW H} {p : List MemPlace}
theorem open_Fs {r : Reach} {b0 : Nat} (hv : Value.okWide Try.prog W r b0 50 v) (h : DataW.Trod enc Try.prog W 0 (fun _ => true) true 50 v d p) :
    ∃ (a : Option Addr) (len cap : Nat) (es : List tupF), v = .slice a len cap ∧ IsRowF W a len cap es := by
  obtain ⟨a, len, cap, rfl⟩ := okWide_slice Try.underlying50 hv
  obtain ⟨fuel, hf⟩ := h
  rcases open_slice Try.underlying50 hf with ⟨h2, _⟩ | ⟨x, l, c, m, n', D, Pl, h2, _, hlc, hcm, hm, _, hx⟩
  · simp [Value.cells] at h2
    obtain ⟨rfl, rfl, rfl⟩ := h2
    exact ⟨none, 0, 0, [], rfl, .inl ⟨rfl, rfl, rfl, rfl⟩⟩
  · simp [Value.cells] at h2
    obtain ⟨rfl, rfl, rfl⟩ := h2
    have hlm : len ≤ m := by rw [hm]; split <;> omega
    have ce : (Try.prog).cellsOf 37 = 2 := by kernel_rfl
    have c1 : (Try.prog).cellsOf 3 = 1 := by kernel_rfl
    have each : ∀ i, i < len → ∃ e : tupF, W.cell? (x.add (i * 2)) = some (.int .i64 e.1) ∧ W.cell? (x.add (i * 2 + 1)) = some (.int .i64 e.2) ∧ (Lit.int .i64 e.1).wf = true ∧ (Lit.int .i64 e.2).wf = true := by
      intro i hi
      obtain ⟨cs', h1, h2⟩ := hx i (by omega)
      rw [ce] at h1
      obtain ⟨_, hlen, hcell⟩ := World.cells?_some h1
      obtain ⟨k0, k1, n2, _, _, q0, q1⟩ := trod_struct2 Try.underlying37 h2
      match cs', hlen with
      | [v0, v1], _ =>
        simp [c1] at q0 q1
        obtain ⟨x0, hx0, _, w0⟩ := DataW.trod_int Try.underlying3 q0
        obtain ⟨x1, hx1, _, w1⟩ := DataW.trod_int Try.underlying3 q1
        simp only [List.cons.injEq, and_true] at hx0 hx1
        subst hx0 hx1
        have d0 := hcell 0 (by omega)
        have d1 := hcell 1 (by omega)
        rw [add_add] at d0 d1
        exact ⟨(x0, x1), by simpa using d0, by simpa using d1, w0, w1⟩
    obtain ⟨F, hF⟩ := choose_lt each
    refine ⟨some x, len, cap, (List.range len).map F, rfl, .inr ⟨x, rfl, hlc, hcm, by simp, ?_, fun i hi => ?_⟩⟩
    · intro e he
      obtain ⟨i, hi, rfl⟩ := List.mem_map.1 he
      obtain ⟨_, _, g0, g1⟩ := hF i (List.mem_range.1 hi)
      exact ⟨bounds_i64 g0, bounds_i64 g1⟩
    · have e : ((List.range len).map F).getD i zeroF = F i := by simp [List.getD_eq_getElem?_getD, hi]
      rw [e]
      obtain ⟨g0, g1, _⟩ := hF i hi
      exact ⟨g0, g1⟩
end
end Go.Proofs.Ytdeofaimgldklaa
