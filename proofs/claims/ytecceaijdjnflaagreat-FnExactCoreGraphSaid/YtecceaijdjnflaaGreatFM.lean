/- Folded graphs, the program: the map of the steps, its keys and what it holds. -/
import Derived.Test.YtecceaijdjnflaaGreatQD
import Derived.Test.YtecceaijdjnflaaGreatGPM
namespace Go.Proofs.YtecceaijdjnflaaGreat
open Go.RowKit Go.Maps
set_option linter.unusedVariables false
set_option linter.unusedSimpArgs false

abbrev I64 (v : Int) : Prop := -9223372036854775808 ≤ v ∧ v ≤ 9223372036854775807
def kS (v l : Int) : Lit := .string (keyBytes [.int .i64 v, .int .i64 l])
theorem lawS : Keyed Tryz.prog 119 := Keyed.of_law (deep_law_laid laidOutP (m := 2) (by omega) (of_decide_eq_true (by kernel_rfl)) (by kernel_rfl) (by rw [Tryz.underlying119]))
theorem keyTS : Tryz.prog.keyType 119 = true := by kernel_rfl
theorem cellsS : Tryz.prog.cellsOf 119 = 2 := by kernel_rfl
theorem cellsSi : Tryz.prog.cellsOf 3 = 1 := by kernel_rfl
theorem kS_key (v l : Int) (hv : I64 v) (hl : I64 l) : keyOf Tryz.prog 119 (.agg #[.int .i64 v, .int .i64 l]) = some (kS v l) := by
  have hwf : (Lit.int .i64 v).wf = true := WalkArith.wf_i64 hv
  have hwf2 : (Lit.int .i64 l).wf = true := WalkArith.wf_i64 hl
  obtain ⟨d, hd⟩ := sizeTypes
  unfold keyOf
  rw [Tryz.underlying119, keyTS, hd]
  simp [Value.formed, Tryz.underlying119, cellsS, cellsSi, Program.keyLits, Tryz.underlying3, Value.cells, hwf, hwf2, kS]
theorem kS_inj {p q l m : Int} (hp : I64 p) (hq : I64 q) (hl : I64 l) (hm : I64 m) (h : kS p l = kS q m) : p = q ∧ l = m := by
  have := lawS.inj (kS_key p l hp hl) (by rw [kS_key q m hq hm, h])
  simp at this
  exact this
theorem kS_is (v l : Int) (hv : I64 v) (hl : I64 l) : WideAt.IsKeyLit (kS v l) := lawS.key (kS_key v l hv hl)

/-- The map of the steps of the first k edges. -/
def stD (es : List Ed) : Nat → DataW Unit
  | 0 => .map []
  | k + 1 => ((stD es k).put (kS (es.getD k e0).1 (es.getD k e0).2.1) (.lit (.int .i64 (es.getD k e0).2.2))).put (kS (es.getD k e0).2.2 (-(es.getD k e0).2.1)) (.lit (.int .i64 (es.getD k e0).1))
/-- One of the first k edges lets one pass with l from v to y. -/
def StepK (es : List Ed) (k : Nat) (v l y : Int) : Prop :=
  ∃ i, i < k ∧ ((v = (es.getD i e0).1 ∧ l = (es.getD i e0).2.1 ∧ y = (es.getD i e0).2.2) ∨ (v = (es.getD i e0).2.2 ∧ l = -(es.getD i e0).2.1 ∧ y = (es.getD i e0).1))
theorem StepK.more {es : List Ed} {k : Nat} {v l y : Int} (h : StepK es k v l y) : StepK es (k + 1) v l y := by
  obtain ⟨i, hi, h⟩ := h
  exact ⟨i, by omega, h⟩
/-- What the numbers of a valid graph's edges are. -/
def Bds (es : List Ed) : Prop := ∀ i, i < es.length → (0 ≤ (es.getD i e0).1 ∧ (es.getD i e0).1 ≤ 40) ∧ (1 ≤ (es.getD i e0).2.1 ∧ (es.getD i e0).2.1 ≤ 3) ∧ (0 ≤ (es.getD i e0).2.2 ∧ (es.getD i e0).2.2 ≤ 40)
theorem bds_of {r s : Int} {es : List Ed} (h : isGr r s es = true) : Bds es := by
  intro i hi
  have hl := isGr_lim h
  have := isGr_at (by omega) h hi
  omega
theorem has_put_iff {D : DataW Unit} (hD : IsMap D) {a b v l : Int} (ha : I64 a) (hb : I64 b) (hv : I64 v) (hl : I64 l) (d : DataW Unit) :
    has (D.put (kS a b) d) (kS v l) = true ↔ (v = a ∧ l = b) ∨ has D (kS v l) = true := by
  by_cases h : v = a ∧ l = b
  · obtain ⟨rfl, rfl⟩ := h
    rw [has_put_same hD (kS_is _ _ hv hl)]
    simp
  · have hne : kS v l ≠ kS a b := fun he => h (kS_inj hv ha hl hb he)
    rw [has_put_other hne]
    simp [h]
theorem stD_tidy {es : List Ed} (hB : Bds es) : ∀ k, k ≤ es.length → Tidy (stD es k) := by
  intro k
  induction k with
  | zero => intro _; exact tidy_empty
  | succ k ih =>
    intro hk
    have hb := hB k (by omega)
    exact ((ih (by omega)).put (kS_is _ _ (by omega) (by omega)) _).put (kS_is _ _ (by omega) (by omega)) _
theorem stD_has {es : List Ed} (hB : Bds es) {v l : Int} (hv : I64 v) (hl : I64 l) : ∀ k, k ≤ es.length → (has (stD es k) (kS v l) = true ↔ ∃ y, StepK es k v l y) := by
  intro k
  induction k with
  | zero =>
    intro _
    constructor
    · intro h; simp [stD, has] at h
    · rintro ⟨y, i, hi, _⟩; omega
  | succ k ih =>
    intro hk
    have hb := hB k (by omega)
    have ht := (stD_tidy hB k (by omega))
    rw [stD, has_put_iff (ht.put (kS_is _ _ (by omega) (by omega)) _).isMap (by omega) (by omega) hv hl, has_put_iff ht.isMap (by omega) (by omega) hv hl, ih (by omega)]
    constructor
    · rintro (⟨h1, h2⟩ | ⟨h1, h2⟩ | ⟨y, h⟩)
      · exact ⟨_, k, by omega, .inr ⟨h1, h2, rfl⟩⟩
      · exact ⟨_, k, by omega, .inl ⟨h1, h2, rfl⟩⟩
      · exact ⟨y, h.more⟩
    · rintro ⟨y, i, hi, h⟩
      by_cases hik : i = k
      · subst hik
        rcases h with ⟨h1, h2, _⟩ | ⟨h1, h2, _⟩
        · exact .inr (.inl ⟨h1, h2⟩)
        · exact .inl ⟨h1, h2⟩
      · exact .inr (.inr ⟨y, i, by omega, h⟩)
theorem stD_at {es : List Ed} (hB : Bds es) {v l : Int} (hv : I64 v) (hl : I64 l) (z : DataW Unit) : ∀ k, k ≤ es.length → has (stD es k) (kS v l) = true →
    ∃ y, StepK es k v l y ∧ (stD es k).atKey (kS v l) z = .lit (.int .i64 y) := by
  intro k
  induction k with
  | zero => intro _ h; simp [stD, has] at h
  | succ k ih =>
    intro hk h
    have hb := hB k (by omega)
    have ht := (stD_tidy hB k (by omega))
    have ht1 := ht.put (kS_is (es.getD k e0).1 (es.getD k e0).2.1 (by omega) (by omega)) (.lit (.int .i64 (es.getD k e0).2.2))
    by_cases h2 : v = (es.getD k e0).2.2 ∧ l = -(es.getD k e0).2.1
    · refine ⟨(es.getD k e0).1, ⟨k, by omega, .inr ⟨h2.1, h2.2, rfl⟩⟩, ?_⟩
      rw [stD, ← h2.1, ← h2.2, atKey_put_same (by rw [h2.1]; exact ht1.isMap) (kS_is _ _ hv hl)]
    · have n2 : kS v l ≠ kS (es.getD k e0).2.2 (-(es.getD k e0).2.1) := fun he => h2 (kS_inj hv (by omega) hl (by omega) he)
      rw [stD, has_put_other n2] at h
      rw [stD, atKey_put_other n2]
      by_cases h1 : v = (es.getD k e0).1 ∧ l = (es.getD k e0).2.1
      · refine ⟨(es.getD k e0).2.2, ⟨k, by omega, .inl ⟨h1.1, h1.2, rfl⟩⟩, ?_⟩
        rw [← h1.1, ← h1.2, atKey_put_same ht.isMap (kS_is _ _ hv hl)]
      · have n1 : kS v l ≠ kS (es.getD k e0).1 (es.getD k e0).2.1 := fun he => h1 (kS_inj hv (by omega) hl (by omega) he)
        rw [has_put_other n1] at h
        rw [atKey_put_other n1]
        obtain ⟨y, hy, e⟩ := ih (by omega) h
        exact ⟨y, hy.more, e⟩
theorem first_iff {es : List Ed} (hB : Bds es) {k : Nat} (hk : k < es.length) : has (stD es k) (kS (es.getD k e0).1 (es.getD k e0).2.1) = true ↔ ∃ i, i < k ∧ (es.getD k e0).2.1 = (es.getD i e0).2.1 ∧ (es.getD k e0).1 = (es.getD i e0).1 := by
  have hb := hB k hk
  rw [stD_has hB (by omega) (by omega) k (by omega)]
  constructor
  · rintro ⟨y, i, hi, h⟩
    have hb' := hB i (by omega)
    rcases h with ⟨h1, h2, _⟩ | ⟨h1, h2, _⟩
    · exact ⟨i, hi, h2, h1⟩
    · omega
  · rintro ⟨i, hi, h2, h1⟩
    exact ⟨_, i, hi, .inl ⟨h1, h2, rfl⟩⟩
theorem second_iff {es : List Ed} (hB : Bds es) {k : Nat} (hk : k < es.length) : has (stD es k) (kS (es.getD k e0).2.2 (-(es.getD k e0).2.1)) = true ↔ ∃ i, i < k ∧ (es.getD k e0).2.1 = (es.getD i e0).2.1 ∧ (es.getD k e0).2.2 = (es.getD i e0).2.2 := by
  have hb := hB k hk
  rw [stD_has hB (by omega) (by omega) k (by omega)]
  constructor
  · rintro ⟨y, i, hi, h⟩
    have hb' := hB i (by omega)
    rcases h with ⟨h1, h2, _⟩ | ⟨h1, h2, _⟩
    · omega
    · exact ⟨i, hi, by omega, h1⟩
  · rintro ⟨i, hi, h2, h1⟩
    exact ⟨_, i, hi, .inr ⟨h1, by omega, rfl⟩⟩
theorem apart_has {es : List Ed} (hB : Bds es) {k : Nat} (hk : k < es.length) : apartE es k k = true ↔ has (stD es k) (kS (es.getD k e0).1 (es.getD k e0).2.1) = false ∧ has (stD es k) (kS (es.getD k e0).2.2 (-(es.getD k e0).2.1)) = false := by
  rw [apartE_iff, ← Bool.not_eq_true, ← Bool.not_eq_true, first_iff hB hk, second_iff hB hk]
  unfold Meets
  constructor
  · intro h
    exact ⟨fun ⟨i, hi, h2, h1⟩ => h i hi ⟨h2, .inl h1⟩, fun ⟨i, hi, h2, h1⟩ => h i hi ⟨h2, .inr h1⟩⟩
  · rintro ⟨ha, hb⟩ i hi ⟨h2, h1 | h1⟩
    · exact ha ⟨i, hi, h2, h1⟩
    · exact hb ⟨i, hi, h2, h1⟩
theorem stD_size {es : List Ed} (hB : Bds es) : ∀ k, k ≤ es.length → size (stD es k) ≤ 2 * k ∧ (size (stD es k) = 2 * k ↔ foldB es k = true) := by
  intro k
  induction k with
  | zero => intro _; simp [stD, size, foldB]
  | succ k ih =>
    intro hk
    have hb := hB k (by omega)
    have ht := (stD_tidy hB k (by omega))
    have ht1 := ht.put (kS_is (es.getD k e0).1 (es.getD k e0).2.1 (by omega) (by omega)) (.lit (.int .i64 (es.getD k e0).2.2))
    obtain ⟨i1, i2⟩ := ih (by omega)
    have s1 := size_put ht (k := kS (es.getD k e0).1 (es.getD k e0).2.1) (.lit (.int .i64 (es.getD k e0).2.2))
    have s2 := size_put ht1 (k := kS (es.getD k e0).2.2 (-(es.getD k e0).2.1)) (.lit (.int .i64 (es.getD k e0).1))
    have ho : has ((stD es k).put (kS (es.getD k e0).1 (es.getD k e0).2.1) (.lit (.int .i64 (es.getD k e0).2.2))) (kS (es.getD k e0).2.2 (-(es.getD k e0).2.1)) = has (stD es k) (kS (es.getD k e0).2.2 (-(es.getD k e0).2.1)) := by
      refine has_put_other (fun he => ?_) _
      have := (kS_inj (by omega) (by omega) (by omega) (by omega) he).2
      omega
    rw [ho] at s2
    have ha := apart_has hB (k := k) (by omega)
    rw [foldB, Bool.and_eq_true, ← i2, ha, stD, s2, s1]
    cases has (stD es k) (kS (es.getD k e0).1 (es.getD k e0).2.1) <;> cases has (stD es k) (kS (es.getD k e0).2.2 (-(es.getD k e0).2.1)) <;> simp <;> omega
/-- In a folded graph the map holds the next vertices. -/
theorem stD_look {r s : Int} {es : List Ed} (hg : isGr r s es = true) (hf : foldB es es.length = true) {v l : Int} (hv : I64 v) (hl : I64 l) :
    (has (stD es es.length) (kS v l) = true ∧ 0 ≤ nxV es v l ∧ nxV es v l < s ∧ (stD es es.length).atKey (kS v l) (.lit (.int .i64 0)) = .lit (.int .i64 (nxV es v l))) ∨
    (has (stD es es.length) (kS v l) = false ∧ nxV es v l = -1) := by
  have hB := bds_of hg
  cases h : has (stD es es.length) (kS v l) with
  | true =>
    obtain ⟨y, hy, e⟩ := stD_at hB hv hl (.lit (.int .i64 0)) es.length (Nat.le_refl _) h
    have hn := nx_at hg hf (v := v) (l := l) (y := y) hy
    have hb := stepAt_vert hg (v := v) (l := l) (y := y) hy
    refine .inl ⟨rfl, ?_, ?_, by rw [hn]; exact e⟩ <;> rw [hn] <;> omega
  | false =>
    refine .inr ⟨rfl, nx_no hg hl fun y hy => ?_⟩
    have := (stD_has hB hv hl es.length (Nat.le_refl _)).2 ⟨y, hy⟩
    rw [h] at this
    cases this
end Go.Proofs.YtecceaijdjnflaaGreat
