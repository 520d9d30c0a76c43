/- Edges as lists, and what the row's step knows of a graph or an edge that came in. -/
import Derived.Test.YtdeofaimgldklaaDoorGD
import Derived.Lib.SmallJoins
import Derived.Deep.Slices
import Derived.ChangeSame
import Derived.OpenShut
namespace Go.Proofs.YtdeofaimgldklaaDoor
open Go.RowKit Go.ChangeShapes Go.WideShapes Go.Deep
set_option linter.unusedVariables false
set_option maxRecDepth 100000

/-- An edge: from, letter, to. -/
abbrev Ed := Int × Int × Int
def e0 : Ed := (0, 0, 0)
/-- The ints of a list of edges. -/
def flatE : List Ed → List Int
  | [] => []
  | e :: es => e.1 :: e.2.1 :: e.2.2 :: flatE es
theorem flatE_length : ∀ es : List Ed, (flatE es).length = es.length * 3 := by
  intro es
  induction es with
  | nil => rfl
  | cons e es ih => simp only [flatE, List.length_cons, ih]; omega
theorem flatE_append (a b : List Ed) : flatE (a ++ b) = flatE a ++ flatE b := by
  induction a with
  | nil => rfl
  | cons e a ih => simp only [List.cons_append, flatE, ih]
theorem flatE_at : ∀ (es : List Ed) (i : Nat), i < es.length → (flatE es).getD (i * 3) 0 = (es.getD i e0).1 ∧ (flatE es).getD (i * 3 + 1) 0 = (es.getD i e0).2.1 ∧ (flatE es).getD (i * 3 + 2) 0 = (es.getD i e0).2.2 := by
  intro es
  induction es with
  | nil => intro i h; simp at h
  | cons e es ih =>
    intro i h
    cases i with
    | zero => simp [flatE]
    | succ i =>
      have := ih i (by simpa using h)
      rw [show (i + 1) * 3 = i * 3 + 1 + 1 + 1 by omega]
      simpa [flatE] using this
def InE (es : List Ed) : Prop := ∀ e ∈ es, (-9223372036854775808 ≤ e.1 ∧ e.1 ≤ 9223372036854775807) ∧ (-9223372036854775808 ≤ e.2.1 ∧ e.2.1 ≤ 9223372036854775807) ∧ (-9223372036854775808 ≤ e.2.2 ∧ e.2.2 ≤ 9223372036854775807)
theorem InE.at_ {es : List Ed} (h : InE es) {i : Nat} (hi : i < es.length) : (-9223372036854775808 ≤ (es.getD i e0).1 ∧ (es.getD i e0).1 ≤ 9223372036854775807) ∧ (-9223372036854775808 ≤ (es.getD i e0).2.1 ∧ (es.getD i e0).2.1 ≤ 9223372036854775807) ∧ (-9223372036854775808 ≤ (es.getD i e0).2.2 ∧ (es.getD i e0).2.2 ≤ 9223372036854775807) := by
  apply h
  rw [List.getD_eq_getElem?_getD, List.getElem?_eq_getElem hi]
  exact List.getElem_mem hi
/-- v can be read as the edges es. -/
abbrev ReadE (B : Nat) (w : World) (v : Value) (es : List Ed) : Prop := ReadS 3 B w v es.length (flatE es)
/-- The three cells of an edge. -/
theorem ReadE.at3 {B : Nat} {w : World} {a : Option Addr} {n cap : Nat} {es : List Ed} (h : ReadE B w (.slice a n cap) es) (i : Nat) (hi : i < es.length) :
    ∃ b off, a = some ⟨b, off, none⟩ ∧ b < B ∧ w.cell? ⟨b, off + i * 3, none⟩ = some (.int .i64 (es.getD i e0).1) ∧ w.cell? ⟨b, off + i * 3 + 1, none⟩ = some (.int .i64 (es.getD i e0).2.1) ∧ w.cell? ⟨b, off + i * 3 + 2, none⟩ = some (.int .i64 (es.getD i e0).2.2) := by
  obtain ⟨b, off, ha, hB, hc⟩ := h.at_ i hi
  obtain ⟨h0, h1, h2⟩ := flatE_at es i hi
  have c0 := hc 0 (by omega)
  rw [Nat.add_zero, Nat.add_zero, h0] at c0
  have c1 := hc 1 (by omega)
  rw [h1] at c1
  have c2 := hc 2 (by omega)
  rw [h2] at c2
  exact ⟨b, off, ha, hB, c0, c1, c2⟩
/-- A slice of edges that came in. -/
def IsRowE (w : World) (a : Option Addr) (len cap : Nat) (es : List Ed) : Prop :=
  (a = none ∧ len = 0 ∧ cap = 0 ∧ es = []) ∨ ∃ x, a = some x ∧ len ≤ cap ∧ cap ≤ maxLen ∧ es.length = len ∧ InE es ∧
    ∀ i, i < len → w.cell? (x.add (i * 3)) = some (.int .i64 (es.getD i e0).1) ∧ w.cell? (x.add (i * 3 + 1)) = some (.int .i64 (es.getD i e0).2.1) ∧ w.cell? (x.add (i * 3 + 2)) = some (.int .i64 (es.getD i e0).2.2)
theorem IsRowE.len {w : World} {a : Option Addr} {len cap : Nat} {es : List Ed} (h : IsRowE w a len cap es) : es.length = len ∧ InE es ∧ (len : Int) ≤ 9223372036854775807 := by
  rcases h with ⟨_, rfl, _, rfl⟩ | ⟨x, _, h1, h2, h3, h4, _⟩
  · exact ⟨rfl, (fun e h => by cases h), by omega⟩
  · exact ⟨h3, h4, by unfold maxLen at h2; omega⟩
theorem IsRowE.read {w : World} {a : Option Addr} {len cap : Nat} {es : List Ed} (h : IsRowE w a len cap es) (hl : len ≤ 1048576) : ReadE w.heap.size w (.slice a len cap) es := by
  rcases h with ⟨rfl, rfl, rfl, rfl⟩ | ⟨x, rfl, h1, h2, h3, h4, hc⟩
  · exact ⟨rfl, by simp, none, 0, rfl, ⟨fun _ => rfl, Nat.le_refl _⟩, .inl rfl⟩
  · refine ⟨flatE_length es, by omega, some x, cap, by rw [h3], ⟨(fun e => by cases e), by omega⟩, ?_⟩
    rcases Nat.eq_zero_or_pos len with h0 | h0
    · left; omega
    · right
      have c0 := (hc 0 h0).1
      obtain ⟨b, off, spot⟩ := x
      have hspot : spot = none := by simpa [Addr.add] using World.cell?_spot c0
      subst hspot
      refine ⟨b, off, rfl, ?_, fun k hk => ?_⟩
      · have c0' : w.cell? ⟨b, off, none⟩ = some (.int .i64 (es.getD 0 e0).1) := by simpa [Addr.add] using c0
        rcases Nat.lt_or_ge b w.heap.size with h1 | h1
        · exact h1
        · unfold World.cell? at c0'
          rw [show w.heap[(⟨b, off, none⟩ : Addr).block]? = none from Array.getElem?_eq_none h1] at c0'
          cases c0'
      · obtain ⟨i, j, hj, rfl⟩ : ∃ i j, j < 3 ∧ k = i * 3 + j := ⟨k / 3, k % 3, Nat.mod_lt _ (by omega), by omega⟩
        have hi : i < len := by omega
        obtain ⟨d0, d1, d2⟩ := hc i hi
        obtain ⟨g0, g1, g2⟩ := flatE_at es i (by omega)
        have key : ∀ m z, w.cell? ((⟨b, off, none⟩ : Addr).add m) = some (.int .i64 z) → w.cell? ⟨b, off + m, none⟩ = some (.int .i64 z) := by
          intro m z hm
          by_cases hm0 : m = 0
          · subst hm0; simpa [Addr.add] using hm
          · simpa [Addr.add, hm0] using hm
        have hj3 : j = 0 ∨ j = 1 ∨ j = 2 := by omega
        rcases hj3 with rfl | rfl | rfl
        · rw [Nat.add_zero, g0]; exact key _ _ d0
        · rw [g1]; exact key _ _ d1
        · rw [g2]; exact key _ _ d2
section
variable {H : Type} {enc : TypeId × Value → H} {W : World} {base : Nat} {v : Value} {d : DataW H} {p : List MemPlace}
end
end Go.Proofs.YtdeofaimgldklaaDoor
