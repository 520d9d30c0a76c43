import Derived.Maps.OwnSet
import Derived.DeepKeys4
import Derived.Maps.OwnOps
import Derived.Deep.RegionHeld3
import Derived.Deep.Cut
import Derived.Test.YtpjlamnjiilgbaaGreatJ5Is
import Derived.Test.YtpjlamnjiilgbaaGreatJ3Is
import Derived.Test.YtpjlamnjiilgbaaGreatJ13Is
namespace Go.Proofs.YtpjlamnjiilgbaaGreat
open Go.RowKit Go.Maps
set_option linter.unusedVariables false
set_option linter.unusedSimpArgs false
def kE (p : Int) (b : Bool) : Lit := .string (keyBytes [.int .i64 p, .bool b])
theorem laidOutP : laidOutB Tryz.prog = true := by kernel_rfl
theorem lawK : Keyed Tryz.prog 220 := Keyed.of_law (deep_law_laid laidOutP (m := 2) (by omega) (of_decide_eq_true (by kernel_rfl)) (by kernel_rfl) (by rw [Tryz.underlying220]))
theorem keyTK : Tryz.prog.keyType 220 = true := by kernel_rfl
theorem cellsK : Tryz.prog.cellsOf 220 = 2 := by kernel_rfl
theorem cellsKi : Tryz.prog.cellsOf 3 = 1 := by kernel_rfl
theorem cellsKb : Tryz.prog.cellsOf 4 = 1 := by kernel_rfl
theorem sizeTypes : ∃ d, Tryz.prog.types.size = d + 1 := by
 have h : Tryz.prog.types.size = (Tryz.prog.types.size - 1) + 1 := by
  have : 0 < Tryz.prog.types.size := of_decide_eq_true (by kernel_rfl)
  omega
 exact ⟨_, h⟩
theorem kE_key (p : Int) (b : Bool) (hp : -9223372036854775808 ≤ p ∧ p ≤ 9223372036854775807) : keyOf Tryz.prog 220 (.agg #[.int .i64 p, .bool b]) = some (kE p b) := by
 have hwf : (Lit.int .i64 p).wf = true := WalkArith.wf_i64 hp
 obtain ⟨d, hd⟩ := sizeTypes
 unfold keyOf
 rw [Tryz.underlying220, keyTK, hd]
 simp [Value.formed, Tryz.underlying220, cellsK, cellsKi, cellsKb, Program.keyLits, Tryz.underlying3, Tryz.underlying4, Value.cells, hwf, kE]
theorem kE_inj {p q : Int} {b c : Bool} (hp : -9223372036854775808 ≤ p ∧ p ≤ 9223372036854775807) (hq : -9223372036854775808 ≤ q ∧ q ≤ 9223372036854775807) (h : kE p b = kE q c) : p = q ∧ b = c := by
 have := lawK.inj (kE_key p b hp) (by rw [kE_key q c hq, h])
 simp at this
 exact this
theorem kE_is (p : Int) (b : Bool) (hp : -9223372036854775808 ≤ p ∧ p ≤ 9223372036854775807) : WideAt.IsKeyLit (kE p b) := lawK.key (kE_key p b hp)
abbrev I64 (v : Int) : Prop := -9223372036854775808 ≤ v ∧ v ≤ 9223372036854775807
def kS (v l : Int) : Lit := .string (keyBytes [.int .i64 v, .int .i64 l])
theorem lawS : Keyed Tryz.prog 96 := Keyed.of_law (deep_law_laid laidOutP (m := 2) (by omega) (of_decide_eq_true (by kernel_rfl)) (by kernel_rfl) (by rw [Tryz.underlying96]))
theorem keyTS : Tryz.prog.keyType 96 = true := by kernel_rfl
theorem cellsS : Tryz.prog.cellsOf 96 = 2 := by kernel_rfl
theorem cellsSi : Tryz.prog.cellsOf 3 = 1 := by kernel_rfl
theorem kS_key (v l : Int) (hv : I64 v) (hl : I64 l) : keyOf Tryz.prog 96 (.agg #[.int .i64 v, .int .i64 l]) = some (kS v l) := by
 have hwf : (Lit.int .i64 v).wf = true := WalkArith.wf_i64 hv
 have hwf2 : (Lit.int .i64 l).wf = true := WalkArith.wf_i64 hl
 obtain ⟨d, hd⟩ := sizeTypes
 unfold keyOf
 rw [Tryz.underlying96, keyTS, hd]
 simp [Value.formed, Tryz.underlying96, cellsS, cellsSi, Program.keyLits, Tryz.underlying3, Value.cells, hwf, hwf2, kS]
theorem kS_inj {p q l m : Int} (hp : I64 p) (hq : I64 q) (hl : I64 l) (hm : I64 m) (h : kS p l = kS q m) : p = q ∧ l = m := by
 have := lawS.inj (kS_key p l hp hl) (by rw [kS_key q m hq hm, h])
 simp at this
 exact this
theorem kS_is (v l : Int) (hv : I64 v) (hl : I64 l) : WideAt.IsKeyLit (kS v l) := lawS.key (kS_key v l hv hl)
def stD (es : List Ed) : Nat → DataW Unit
 | 0 => .map []
 | k + 1 => ((stD es k).put (kS (es.getD k e0).1 (es.getD k e0).2.1) (.lit (.int .i64 (es.getD k e0).2.2))).put (kS (es.getD k e0).2.2 (-(es.getD k e0).2.1)) (.lit (.int .i64 (es.getD k e0).1))
def StepK (es : List Ed) (k : Nat) (v l y : Int) : Prop :=
 ∃ i, i < k ∧ ((v = (es.getD i e0).1 ∧ l = (es.getD i e0).2.1 ∧ y = (es.getD i e0).2.2) ∨ (v = (es.getD i e0).2.2 ∧ l = -(es.getD i e0).2.1 ∧ y = (es.getD i e0).1))
theorem StepK.more {es : List Ed} {k : Nat} {v l y : Int} (h : StepK es k v l y) : StepK es (k + 1) v l y := by
 obtain ⟨i, hi, h⟩ := h
 exact ⟨i, by omega, h⟩
def Bds (es : List Ed) : Prop := ∀ i, i < es.length → (0 ≤ (es.getD i e0).1 ∧ (es.getD i e0).1 ≤ 40) ∧ (1 ≤ (es.getD i e0).2.1 ∧ (es.getD i e0).2.1 ≤ 3) ∧ (0 ≤ (es.getD i e0).2.2 ∧ (es.getD i e0).2.2 ≤ 40)
theorem bds_of {r s : Int} {es : List Ed} (h : isGr r s es = true) : Bds es := by
 intro i hi
 have hl := isGr_lim h
 have := isGr_at (by omega) h hi
 omega
theorem has_put_iff {D : DataW Unit} (hD : IsMap D) {a b v l : Int} (ha : I64 a) (hb : I64 b) (hv : I64 v) (hl : I64 l) (d : DataW Unit) :
 has (D.put (kS a b) d) (kS v l) = true ↔ (v = a ∧ l = b) ∨ has D (kS v l) = true := by
 by_cases h : v = a ∧ l = b
 · obtain ⟨rfl, rfl⟩ := h
   rw [has_put_same hD (kS_is _ _ hv hl)]
   simp
 · have hne : kS v l ≠ kS a b := fun he => h (kS_inj hv ha hl hb he)
   rw [has_put_other hne]
   simp [h]
theorem stD_tidy {es : List Ed} (hB : Bds es) : ∀ k, k ≤ es.length → Tidy (stD es k) := by
 intro k
 induction k with
 | zero => intro _; exact tidy_empty
 | succ k ih =>
  intro hk
  have hb := hB k (by omega)
  exact ((ih (by omega)).put (kS_is _ _ (by omega) (by omega)) _).put (kS_is _ _ (by omega) (by omega)) _
theorem stD_has {es : List Ed} (hB : Bds es) {v l : Int} (hv : I64 v) (hl : I64 l) : ∀ k, k ≤ es.length → (has (stD es k) (kS v l) = true ↔ ∃ y, StepK es k v l y) := by
 intro k
 induction k with
 | zero =>
  intro _
  constructor
  · intro h; simp [stD, has] at h
  · rintro ⟨y, i, hi, _⟩; omega
 | succ k ih =>
  intro hk
  have hb := hB k (by omega)
  have ht := (stD_tidy hB k (by omega))
  rw [stD, has_put_iff (ht.put (kS_is _ _ (by omega) (by omega)) _).isMap (by omega) (by omega) hv hl, has_put_iff ht.isMap (by omega) (by omega) hv hl, ih (by omega)]
  constructor
  · rintro (⟨h1, h2⟩ | ⟨h1, h2⟩ | ⟨y, h⟩)
    · exact ⟨_, k, by omega, .inr ⟨h1, h2, rfl⟩⟩
    · exact ⟨_, k, by omega, .inl ⟨h1, h2, rfl⟩⟩
    · exact ⟨y, h.more⟩
  · rintro ⟨y, i, hi, h⟩
    by_cases hik : i = k
    · subst hik
      rcases h with ⟨h1, h2, _⟩ | ⟨h1, h2, _⟩
      · exact .inr (.inl ⟨h1, h2⟩)
      · exact .inl ⟨h1, h2⟩
    · exact .inr (.inr ⟨y, i, by omega, h⟩)
theorem stD_at {es : List Ed} (hB : Bds es) {v l : Int} (hv : I64 v) (hl : I64 l) (z : DataW Unit) : ∀ k, k ≤ es.length → has (stD es k) (kS v l) = true →
 ∃ y, StepK es k v l y ∧ (stD es k).atKey (kS v l) z = .lit (.int .i64 y) := by
 intro k
 induction k with
 | zero => intro _ h; simp [stD, has] at h
 | succ k ih =>
  intro hk h
  have hb := hB k (by omega)
  have ht := (stD_tidy hB k (by omega))
  have ht1 := ht.put (kS_is (es.getD k e0).1 (es.getD k e0).2.1 (by omega) (by omega)) (.lit (.int .i64 (es.getD k e0).2.2))
  by_cases h2 : v = (es.getD k e0).2.2 ∧ l = -(es.getD k e0).2.1
  · refine ⟨(es.getD k e0).1, ⟨k, by omega, .inr ⟨h2.1, h2.2, rfl⟩⟩, ?_⟩
    rw [stD, ← h2.1, ← h2.2, atKey_put_same (by rw [h2.1]; exact ht1.isMap) (kS_is _ _ hv hl)]
  · have n2 : kS v l ≠ kS (es.getD k e0).2.2 (-(es.getD k e0).2.1) := fun he => h2 (kS_inj hv (by omega) hl (by omega) he)
    rw [stD, has_put_other n2] at h
    rw [stD, atKey_put_other n2]
    by_cases h1 : v = (es.getD k e0).1 ∧ l = (es.getD k e0).2.1
    · refine ⟨(es.getD k e0).2.2, ⟨k, by omega, .inl ⟨h1.1, h1.2, rfl⟩⟩, ?_⟩
      rw [← h1.1, ← h1.2, atKey_put_same ht.isMap (kS_is _ _ hv hl)]
    · have n1 : kS v l ≠ kS (es.getD k e0).1 (es.getD k e0).2.1 := fun he => h1 (kS_inj hv (by omega) hl (by omega) he)
      rw [has_put_other n1] at h
      rw [atKey_put_other n1]
      obtain ⟨y, hy, e⟩ := ih (by omega) h
      exact ⟨y, hy.more, e⟩
theorem first_iff {es : List Ed} (hB : Bds es) {k : Nat} (hk : k < es.length) : has (stD es k) (kS (es.getD k e0).1 (es.getD k e0).2.1) = true ↔ ∃ i, i < k ∧ (es.getD k e0).2.1 = (es.getD i e0).2.1 ∧ (es.getD k e0).1 = (es.getD i e0).1 := by
 have hb := hB k hk
 rw [stD_has hB (by omega) (by omega) k (by omega)]
 constructor
 · rintro ⟨y, i, hi, h⟩
   have hb' := hB i (by omega)
   rcases h with ⟨h1, h2, _⟩ | ⟨h1, h2, _⟩
   · exact ⟨i, hi, h2, h1⟩
   · omega
 · rintro ⟨i, hi, h2, h1⟩
   exact ⟨_, i, hi, .inl ⟨h1, h2, rfl⟩⟩
theorem second_iff {es : List Ed} (hB : Bds es) {k : Nat} (hk : k < es.length) : has (stD es k) (kS (es.getD k e0).2.2 (-(es.getD k e0).2.1)) = true ↔ ∃ i, i < k ∧ (es.getD k e0).2.1 = (es.getD i e0).2.1 ∧ (es.getD k e0).2.2 = (es.getD i e0).2.2 := by
 have hb := hB k hk
 rw [stD_has hB (by omega) (by omega) k (by omega)]
 constructor
 · rintro ⟨y, i, hi, h⟩
   have hb' := hB i (by omega)
   rcases h with ⟨h1, h2, _⟩ | ⟨h1, h2, _⟩
   · omega
   · exact ⟨i, hi, by omega, h1⟩
 · rintro ⟨i, hi, h2, h1⟩
   exact ⟨_, i, hi, .inr ⟨h1, by omega, rfl⟩⟩
theorem apart_has {es : List Ed} (hB : Bds es) {k : Nat} (hk : k < es.length) : apartE es k k = true ↔ has (stD es k) (kS (es.getD k e0).1 (es.getD k e0).2.1) = false ∧ has (stD es k) (kS (es.getD k e0).2.2 (-(es.getD k e0).2.1)) = false := by
 rw [apartE_iff, ← Bool.not_eq_true, ← Bool.not_eq_true, first_iff hB hk, second_iff hB hk]
 unfold Meets
 constructor
 · intro h
   exact ⟨fun ⟨i, hi, h2, h1⟩ => h i hi ⟨h2, .inl h1⟩, fun ⟨i, hi, h2, h1⟩ => h i hi ⟨h2, .inr h1⟩⟩
 · rintro ⟨ha, hb⟩ i hi ⟨h2, h1 | h1⟩
   · exact ha ⟨i, hi, h2, h1⟩
   · exact hb ⟨i, hi, h2, h1⟩
theorem stD_size {es : List Ed} (hB : Bds es) : ∀ k, k ≤ es.length → size (stD es k) ≤ 2 * k ∧ (size (stD es k) = 2 * k ↔ foldB es k = true) := by
 intro k
 induction k with
 | zero => intro _; simp [stD, size, foldB]
 | succ k ih =>
  intro hk
  have hb := hB k (by omega)
  have ht := (stD_tidy hB k (by omega))
  have ht1 := ht.put (kS_is (es.getD k e0).1 (es.getD k e0).2.1 (by omega) (by omega)) (.lit (.int .i64 (es.getD k e0).2.2))
  obtain ⟨i1, i2⟩ := ih (by omega)
  have s1 := size_put ht (k := kS (es.getD k e0).1 (es.getD k e0).2.1) (.lit (.int .i64 (es.getD k e0).2.2))
  have s2 := size_put ht1 (k := kS (es.getD k e0).2.2 (-(es.getD k e0).2.1)) (.lit (.int .i64 (es.getD k e0).1))
  have ho : has ((stD es k).put (kS (es.getD k e0).1 (es.getD k e0).2.1) (.lit (.int .i64 (es.getD k e0).2.2))) (kS (es.getD k e0).2.2 (-(es.getD k e0).2.1)) = has (stD es k) (kS (es.getD k e0).2.2 (-(es.getD k e0).2.1)) := by
   refine has_put_other (fun he => ?_) _
   have := (kS_inj (by omega) (by omega) (by omega) (by omega) he).2
   omega
  rw [ho] at s2
  have ha := apart_has hB (k := k) (by omega)
  rw [foldB, Bool.and_eq_true, ← i2, ha, stD, s2, s1]
  cases has (stD es k) (kS (es.getD k e0).1 (es.getD k e0).2.1) <;> cases has (stD es k) (kS (es.getD k e0).2.2 (-(es.getD k e0).2.1)) <;> simp <;> omega
theorem stD_look {r s : Int} {es : List Ed} (hg : isGr r s es = true) (hf : foldB es es.length = true) {v l : Int} (hv : I64 v) (hl : I64 l) :
 (has (stD es es.length) (kS v l) = true ∧ 0 ≤ nxV es v l ∧ nxV es v l < s ∧ (stD es es.length).atKey (kS v l) (.lit (.int .i64 0)) = .lit (.int .i64 (nxV es v l))) ∨
 (has (stD es es.length) (kS v l) = false ∧ nxV es v l = -1) := by
 have hB := bds_of hg
 cases h : has (stD es es.length) (kS v l) with
 | true =>
  obtain ⟨y, hy, e⟩ := stD_at hB hv hl (.lit (.int .i64 0)) es.length (Nat.le_refl _) h
  have hn := nx_at hg hf (v := v) (l := l) (y := y) hy
  have hb := stepAt_vert hg (v := v) (l := l) (y := y) hy
  refine .inl ⟨rfl, ?_, ?_, by rw [hn]; exact e⟩ <;> rw [hn] <;> omega
 | false =>
  refine .inr ⟨rfl, nx_no hg hl fun y hy => ?_⟩
  have := (stD_has hB hv hl es.length (Nat.le_refl _)).2 ⟨y, hy⟩
  rw [h] at this
  cases this
abbrev MapS (w : World) (b n : Nat) (D : DataW Unit) : Prop := w.ownsMap Tryz.prog 96 (plainElem Tryz.prog 3) b n D
theorem zeroInt (w : World) : (zeroValue 3).run Tryz.prog w = .ok (.int .i64 0) w := by kernel_rfl
def LwSteps (w : World) (r s : Int) (es : List Ed) (e : Ending) (w' : World) : Prop :=
 (isFo r s es = true ∧ ∃ b, e = .returned (.tuple #[.map (some b), .bool true]) ∧ w.heap.size ≤ b ∧ b < w'.heap.size ∧ MapS w' b (2 * es.length) (stD es es.length) ∧ Below w.heap.size w w') ∨
 (isFo r s es = false ∧ e = .returned (.tuple #[.map none, .bool false]) ∧ Below w.heap.size w w')
theorem MapS.below {w w' : World} {B b n : Nat} {D : DataW Unit} (h : MapS w b n D) (hb : Below B w w') (hlt : b < B) : MapS w' b n D := by
 obtain ⟨es, clock, hb', F, hs, hD⟩ := h
 exact ⟨es, clock, (hb.block b hlt).trans hb', F, hs, hD⟩
theorem run_makeMap_hint {P : Program} (t k e : TypeId) (n : Int) (hm : P.underlying t = some (.map k e)) (w : World) : (Instr.makeMap t (some (.int .i64 n))).run P w = .ok (.map (some w.heap.size)) (w.alloc (.map #[] 0)) := by
 simp [Instr.makeMap, run_underlying hm]
 rfl
set_option maxHeartbeats 3200000 in
theorem folded_any (w : World) (r s : Int) (v : Value) (es : List Ed) (h : ReadE w.heap.size w v es) (hl : es.length ≤ 100000000) :
 Calls Tryz.prog 72 #[.agg #[.int .i64 r, .int .i64 s, v]] w (LwSteps w r s es) := by
 obtain ⟨a, cap, rfl, hnc⟩ := h.form
 obtain ⟨n, hn⟩ := exq es.length
 rw [← hn] at hl hnc ⊢
 rw [← hn] at h
 obtain ⟨w1, hw1⟩ := exq (w.alloc (.cells #[.int .i64 r, .int .i64 s, .slice a n cap] 26))
 have hb1 : Below w.heap.size w w1 := by rw [hw1]; exact (Below.refl _ _).alloc (Nat.le_refl _) _
 have hs1 : w1.heap.size = w.heap.size + 1 := by rw [hw1]; simp
 have hc := progIsGr w1 r s (.slice a n cap) es ((h.below hb1).mono hb1.size) (by omega)
 obtain ⟨B, hB⟩ := exq (isGr r s es)
 rw [← hB] at hc
 obtain ⟨g0, g1, g2⟩ := box3 hw1
 have hmm := run_makeMap_hint (P := Tryz.prog) 58 _ _ (2 * (n : Int)) Tryz.underlying58
 have h2n : IntKind.i64.wrap (2 * (n : Int)) = 2 * (n : Int) := IntWalk.i64_in _ ⟨by omega, by omega⟩
 replace hn := hidI hn
 replace hw1 := hidI hw1
 replace h := hidI h
 replace hs1 := hidI hs1
 go_enter Tryz.func72, Tryz.ntmps72
 go_wp2_with fail
 rw [← hw1.out]
 refine hc.mono ?_
 rintro e w2 ⟨rfl, hb2⟩
 clear hc
 have hb12 := hb1.trans (hb2.mono hb1.size)
 cases B with
 | false =>
  have hfin := hidI (isFo_gr (r := r) (s := s) (es := es) hB.symm)
  replace hB := hidI hB
  go_wp2
  go_ret2
  exact .inr ⟨hfin.out, rfl, hb12⟩
 | true =>
 have hg := hidI hB.symm
 replace hB := hidI hB
 have hBd := hidI (bds_of hg.out)
 have hlim := hidI (isGr_lim hg.out)
 have hn120 : n ≤ 120 := by have := hlim.out; have := hn.out; omega
 replace g2 := below_cell g2 hb2 (by have := hs1.out; omega)
 clear g0 g1
 have hs2 : w.heap.size < w2.heap.size := by have := hs1.out; have := hb2.size; omega
 obtain ⟨w3, hw3⟩ := exq (w2.alloc (.map #[] 0))
 have hm3 : MapS w3 w2.heap.size 0 (stD es 0) := by rw [hw3]; exact World.ownsMap_made (H := Unit) w2 Tryz.prog 96 (plainElem Tryz.prog 3)
 have hb3 : Below w2.heap.size w2 w3 := by rw [hw3]; exact (Below.refl _ _).alloc (Nat.le_refl _) _
 have hs3 : w2.heap.size < w3.heap.size := by rw [hw3]; simp
 have g3 := below_cell g2 hb3 hs2
 have hb13 := hidI (hb12.trans (hb3.mono hb12.size))
 replace hb12 := hidI hb12
 replace hm3 := hidI hm3
 have hbm := hidI (hb3)
 clear hb2 hb3
 replace hw3 := hidI hw3
 go_wp2
 rw [← hw3.out]
 go_wp2
 go_loopg [18] n (fun g i wr => ∃ k : Nat, k + g = n ∧ i = .int .i64 k ∧ Hid (MapS wr w2.heap.size (2 * k) (stD es k)) ∧ Hid (w2.heap.size < wr.heap.size) ∧ Hid (Below w2.heap.size w2 wr))
 case atStart => exact ⟨0, by omega, rfl, hm3, hidI hs3, hbm⟩
 case round =>
  clear hm3
  obtain ⟨k, hk, rfl, hm, hsz, hb⟩ := hrel
  have g4 := below_cell g2 hb.out hs2
  by_cases hlt : k < n
  · obtain ⟨b, off, hab, hBk, c0, c1, c2⟩ := ReadE.at3 (h.out.below (hb12.out.trans (hb.out.mono hb12.out.size))) k (by have := hn.out; omega)
    subst hab
    have hbk := hBd.out k (by have := hn.out; omega)
    have hstep : stD es (k + 1) = ((stD es k).put (kS (es.getD k e0).1 (es.getD k e0).2.1) (.lit (.int .i64 (es.getD k e0).2.2))).put (kS (es.getD k e0).2.2 (-(es.getD k e0).2.1)) (.lit (.int .i64 (es.getD k e0).1)) := rfl
    obtain ⟨D, hD⟩ := exq (stD es k)
    obtain ⟨D2, hD2⟩ := exq (stD es (k + 1))
    rw [← hD, ← hD2] at hstep
    rw [← hD] at hm
    obtain ⟨f, hf⟩ := exq ((es.getD k e0).1)
    obtain ⟨l, hll⟩ := exq ((es.getD k e0).2.1)
    obtain ⟨t, ht⟩ := exq ((es.getD k e0).2.2)
    rw [← hf, ← hll, ← ht] at hstep hbk
    rw [← hf] at c0
    rw [← hll] at c1
    rw [← ht] at c2
    have hki : (k : Int) < (n : Int) := by omega
    have hmn : Hid (MapS (wr.alloc (.cells #[.int .i64 f, .int .i64 l, .int .i64 t] 72)) w2.heap.size (2 * k) D) := hidI (World.ownsMap.alloc hm.out _)
    have hbn : Below w2.heap.size w2 (wr.alloc (.cells #[.int .i64 f, .int .i64 l, .int .i64 t] 72)) := hb.out.alloc hb.out.size _
    have hsn : w2.heap.size < wr.heap.size := hsz.out
    have k1 := kS_key f l (by unfold I64; omega) (by unfold I64; omega)
    have k2 := kS_key t (-l) (by unfold I64; omega) (by unfold I64; omega)
    have v1 : plainElem (H := Unit) Tryz.prog 3 (.int .i64 t) = some (.lit (.int .i64 t), []) := plainElem_int Tryz.underlying3 (WalkArith.wf_i64 (by omega))
    have v2 : plainElem (H := Unit) Tryz.prog 3 (.int .i64 f) = some (.lit (.int .i64 f), []) := plainElem_int Tryz.underlying3 (WalkArith.wf_i64 (by omega))
    have hneg : IntKind.i64.wrap (-l) = -l := IntWalk.i64_in _ (by omega)
    replace hm := hmn
    clear hmn hb hsz
    replace hf := hidI hf
    replace hll := hidI hll
    replace ht := hidI ht
    replace hD := hidI hD
    replace hD2 := hidI hD2
    replace hstep := hidI hstep
    replace hk := hidI hk
    replace hbk := hidI hbk
    replace k1 := hidI k1
    replace k2 := hidI k2
    replace v1 := hidI v1
    replace v2 := hidI v2
    go_wp2_with (at_mapUpdate; go_must (refine wpList_mapUpdate_own _ rfl _ _ _ 58 rfl 96 3 lawS Tryz.underlying58 _ w2.heap.size (2 * k) D rfl hm.out (by unfold maxLen; omega) _ _ _ rfl rfl k1.out _ [] v1.out ?_))
    intro w5 hm5 hg5
    have hkx : w5.heap[wr.heap.size]? = some (.cells #[.int .i64 f, .int .i64 l, .int .i64 t] 72 (0, 0)) := (hg5.block wr.heap.size (by simp) (by simp; omega)).trans (heap_alloc_new _ _)
    obtain ⟨x0, x1, x2⟩ := cell3 hkx
    simp at x0 x1 x2
    have hb5 : Below w2.heap.size w2 w5 := hbn.grown hg5 hbn.size (fun j hj => by cases hj; omega)
    have hs5 : wr.heap.size < w5.heap.size := by have := hg5.size; simp at this; omega
    replace hm5 := hidI hm5
    replace hb5 := hidI hb5
    clear hg5 hm
    replace hkx := hidI hkx
    go_wp2_with (at_mapUpdate; go_must (refine wpList_mapUpdate_own _ rfl _ _ _ 58 rfl 96 3 lawS Tryz.underlying58 _ w2.heap.size (2 * k + 1) (D.put (kS f l) (.lit (.int .i64 t))) rfl hm5.out (by unfold maxLen; omega) _ _ _ rfl rfl k2.out _ [] v2.out ?_))
    intro w6 hm6 hg6
    have hb6 : Below w2.heap.size w2 w6 := hb5.out.grown hg6 hb5.out.size (fun j hj => by cases hj; omega)
    have hs6 := hg6.size
    clear hg6
    replace hm6 := hidI hm6
    clear x0 x1 x2
    have hnx : Hid (MapS w6 w2.heap.size (2 * (k + 1)) (stD es (k + 1))) := hidI (by rw [← hD2.out, hstep.out]; exact World.ownsMap.mono hm6.out (by omega))
    have hbz := hidI hb6
    have hsz2 : Hid (w2.heap.size < w6.heap.size) := hidI (by omega)
    go_wp2
    go_roundg (n - (k + 1))
    case rel => exact ⟨k + 1, by have := hk.out; omega, by go_num, hnx, hsz2, hbz⟩
    case measure => have := hk.out; omega
  · obtain rfl : k = n := by omega
    have hki : ¬ (k : Int) < (k : Int) := by omega
    replace hk := hidI hk
    have hsize := stD_size hBd.out k (by have := hn.out; omega)
    obtain ⟨m, hm0⟩ := exq (size (stD es k))
    obtain ⟨D, hD⟩ := exq (stD es k)
    rw [← hm0] at hsize
    rw [← hD] at hm hm0
    have hfo : (m = 2 * k ↔ isFo r s es = true) := by
     rw [hsize.2]
     unfold isFo
     rw [hg.out, Bool.true_and, hn.out]
    have hm1 : (size D : Int) = (m : Int) := by rw [hm0]
    have hm2 : m ≤ 2 * k := hsize.1
    have hbz := hidI (hb12.out.trans (hb.out.mono hb12.out.size))
    clear hsize
    replace hm0 := hidI hm0
    replace hD := hidI hD
    replace hfo := hidI hfo
    by_cases hmk : m = 2 * k
    · have hyes := hidI (hfo.out.1 hmk)
      have t1 : ((m : Int) != 2 * (k : Int)) = false := by rw [bne_eq_false_iff_eq]; omega
      replace hmk := hidI hmk
      go_wp2_with (at_len; refine wpList_len_own _ rfl _ 58 rfl 96 3 Tryz.underlying58 _ w2.heap.size _ D rfl hm.out ?_)
      go_wp2
      go_ret2
      exact .inl ⟨hyes.out, _, rfl, by have := hb12.out.size; omega, hsz.out, by rw [← hn.out, ← hD.out]; exact hm.out, hbz.out⟩
    · have hno : isFo r s es = false := by
       cases hq : isFo r s es with
       | false => rfl
       | true => exact absurd (hfo.out.2 hq) hmk
      have t1 : ((m : Int) != 2 * (k : Int)) = true := by rw [bne_iff_ne]; omega
      replace hno := hidI hno
      replace hmk := hidI hmk
      go_wp2_with (at_len; refine wpList_len_own _ rfl _ 58 rfl 96 3 Tryz.underlying58 _ w2.heap.size _ D rfl hm.out ?_)
      go_wp2
      go_ret2
      exact .inr ⟨hno.out, rfl, hbz.out⟩
theorem progFold (w : World) (r s : Int) (v : Value) (es : List Ed) (h : ReadE w.heap.size w v es) (hl : es.length ≤ 100000000) :
 Calls Tryz.prog 123 #[.agg #[.int .i64 r, .int .i64 s, v]] w (LwBool w (isFo r s es)) := by
 obtain ⟨a, cap, rfl, hnc⟩ := h.form
 obtain ⟨n, hn⟩ := exq es.length
 rw [← hn] at hl hnc ⊢
 rw [← hn] at h
 obtain ⟨w1, hw1⟩ := exq (w.alloc (.cells #[.int .i64 r, .int .i64 s, .slice a n cap] 26))
 have hb1 : Below w.heap.size w w1 := by rw [hw1]; exact (Below.refl _ _).alloc (Nat.le_refl _) _
 have hc := folded_any w1 r s (.slice a n cap) es ((h.below hb1).mono hb1.size) (by omega)
 obtain ⟨g0, g1, g2⟩ := box3 hw1
 replace hn := hidI hn
 replace hw1 := hidI hw1
 replace h := hidI h
 go_enter Tryz.func123, Tryz.ntmps123
 go_wp2_with fail
 rw [← hw1.out]
 refine hc.mono ?_
 rintro e w2 (⟨hf, b, rfl, h1, h2, h3, hb2⟩ | ⟨hf, rfl, hb2⟩)
 all_goals
  have hbz := hb1.trans (hb2.mono hb1.size)
  clear hc
  replace hf := hidI hf
  go_wp2
  go_ret
  exact ⟨ret_bool hf.out.symm, hbz⟩
open Go.RowKit
def BoolsAt (w : World) (G : Nat) (L : List Int) : Prop :=
 ∃ cur : Array Value, w.heap[G]? = some (.cells cur 130 (0, 0)) ∧ cur.size = 40 ∧ ∀ u : Nat, u < 40 → cur[u]? = some (.bool (decide ((u : Int) ∈ L)))
theorem BoolsAt.cell {w : World} {G : Nat} {L : List Int} (h : BoolsAt w G L) (u : Nat) (hu : u < 40) : w.cell? ⟨G, u, none⟩ = some (.bool (decide ((u : Int) ∈ L))) := by
 obtain ⟨cur, hh, hs, hc⟩ := h
 have := cell_of_heap hh u
 rw [this]; exact hc u hu
theorem BoolsAt.frozen {w : World} {G : Nat} {L : List Int} (h : BoolsAt w G L) (u : Nat) : w.frozen? ⟨G, u, none⟩ = false := by
 obtain ⟨cur, hh, hs, hc⟩ := h
 exact frozen_of_row w G u cur _ hh
theorem BoolsAt.lt {w : World} {G : Nat} {L : List Int} (h : BoolsAt w G L) : G < w.heap.size := by
 obtain ⟨cur, hh, hs, hc⟩ := h
 exact (Array.getElem?_eq_some_iff.1 hh).1
theorem BoolsAt.below {w w' : World} {B G : Nat} {L : List Int} (h : BoolsAt w G L) (hb : Below B w w') (hlt : G < B) : BoolsAt w' G L := by
 obtain ⟨cur, hh, hs, hc⟩ := h
 exact ⟨cur, by rw [hb.block G hlt]; exact hh, hs, hc⟩
theorem BoolsAt.set {w : World} {G : Nat} {L L' : List Int} (h : BoolsAt w G L) (x : Nat) (hx : x < 40) (hL : ∀ u : Nat, u < 40 → ((u : Int) ∈ L' ↔ (u : Int) ∈ L ∨ u = x)) : BoolsAt (w.setCell ⟨G, x, none⟩ (.bool true)) G L' := by
 obtain ⟨cur, hh, hs, hc⟩ := h
 refine ⟨cur.setIfInBounds x (.bool true), heap_setCell_same w G x cur _ _ hh, by simpa using hs, fun u hu => ?_⟩
 by_cases hux : u = x
 · subst hux
   rw [Array.getElem?_setIfInBounds_self_of_lt (by omega)]
   rw [decide_eq_true ((hL u hu).2 (.inr rfl))]
 · rw [Array.getElem?_setIfInBounds_ne (by omega), hc u hu]
   have := hL u hu
   by_cases hm : (u : Int) ∈ L
   · rw [decide_eq_true hm, decide_eq_true (this.2 (.inl hm))]
   · rw [decide_eq_false hm, decide_eq_false (fun h => by rcases this.1 h with h | h <;> contradiction)]
theorem BoolsAt.same {w : World} {G : Nat} {L L' : List Int} (h : BoolsAt w G L) (hL : ∀ u : Nat, u < 40 → ((u : Int) ∈ L' ↔ (u : Int) ∈ L)) : BoolsAt w G L' := by
 obtain ⟨cur, hh, hs, hc⟩ := h
 refine ⟨cur, hh, hs, fun u hu => ?_⟩
 rw [hc u hu]
 by_cases hm : (u : Int) ∈ L
 · rw [decide_eq_true hm, decide_eq_true ((hL u hu).2 hm)]
 · rw [decide_eq_false hm, decide_eq_false (fun h => hm ((hL u hu).1 h))]
theorem BoolsAt.none40 (w : World) : BoolsAt (w.alloc (.cells #[.bool false, .bool false, .bool false, .bool false, .bool false, .bool false, .bool false, .bool false, .bool false, .bool false, .bool false, .bool false, .bool false, .bool false, .bool false, .bool false, .bool false, .bool false, .bool false, .bool false, .bool false, .bool false, .bool false, .bool false, .bool false, .bool false, .bool false, .bool false, .bool false, .bool false, .bool false, .bool false, .bool false, .bool false, .bool false, .bool false, .bool false, .bool false, .bool false, .bool false] 130)) w.heap.size [] := by
 refine ⟨_, heap_alloc_new _ _, rfl, fun u hu => ?_⟩
 show (Array.replicate 40 (Value.bool false))[u]? = _
 rw [Array.getElem?_replicate, if_pos hu]
 rfl
theorem touch_ft {L : List Int} {fN tN u : Nat} {l : Int} (hor : (fN : Int) ∈ L ∨ (tN : Int) ∈ L) : (u : Int) ∈ touchE L ((fN : Int), l, (tN : Int)) ↔ (u : Int) ∈ (fN : Int) :: L ∨ u = tN := by
 rw [mem_touchE, List.mem_cons]
 constructor
 · rintro (h | ⟨_, h | h⟩)
   · exact .inl (.inr h)
   · exact .inl (.inl h)
   · exact .inr (Int.ofNat.inj h)
 · rintro ((h | h) | h)
   · exact .inr ⟨hor, .inl h⟩
   · exact .inl h
   · exact .inr ⟨hor, .inr (by rw [h])⟩
theorem cons_set {L : List Int} {x u : Nat} : (u : Int) ∈ (x : Int) :: L ↔ (u : Int) ∈ L ∨ u = x := by
 rw [List.mem_cons]
 constructor
 · rintro (h | h)
   · exact .inr (Int.ofNat.inj h)
   · exact .inl h
 · rintro (h | h)
   · exact .inr h
   · exact .inl (by rw [h])
theorem setCell_cell {w : World} {G x b j : Nat} {v u : Value} (h : w.cell? ⟨b, j, none⟩ = some u) (hb : b ≠ G) : (w.setCell ⟨G, x, none⟩ v).cell? ⟨b, j, none⟩ = some u :=
 (World.cell?_of_block (heap_setCell_other w ⟨G, x, none⟩ b v hb)).trans h
theorem setCell_size (w : World) (p : Addr) (v : Value) : (w.setCell p v).heap.size = w.heap.size := by simp [World.setCell]
set_option maxRecDepth 100000 in
set_option maxHeartbeats 3200000 in
theorem progReach (w : World) (r s : Int) (v : Value) (es : List Ed) (x : Int) (h : ReadE w.heap.size w v es) (hl : es.length ≤ 10000000) :
 Calls Tryz.prog 151 #[.agg #[.int .i64 r, .int .i64 s, v], .int .i64 x] w (IntsRet w (reachG r s es x)) := by
 obtain ⟨a, cap, rfl, hnc⟩ := h.form
 obtain ⟨n, hn⟩ := exq es.length
 rw [← hn] at hl hnc ⊢
 rw [← hn] at h
 obtain ⟨w1, hw1⟩ := exq (w.alloc (.cells #[.int .i64 r, .int .i64 s, .slice a n cap] 26))
 have hb1 : Below w.heap.size w w1 := by rw [hw1]; exact (Below.refl _ _).alloc (Nat.le_refl _) _
 have hs1 : w.heap.size < w1.heap.size := by rw [hw1]; simp
 obtain ⟨g0, g1, g2⟩ := box3 hw1
 have hcf := progIsGr w1 r s (.slice a n cap) es ((h.below hb1).mono hb1.size) (by omega)
 obtain ⟨B, hB⟩ := exq (isGr r s es)
 rw [← hB] at hcf
 obtain ⟨F, hF⟩ := exq (reachG r s es x)
 rw [← hF]
 have hno : (B = false ∨ ¬ (0 ≤ x ∧ x < s)) → F = [] := by
  intro h
  rw [hF]
  unfold reachG isVx
  rw [← hB]
  rcases h with h | h
  · rw [h]; rfl
  · rw [decide_eq_false h, Bool.and_false]; rfl
 have hyes : B = true → (0 ≤ x ∧ x < s) → F = reachL es x := by
  intro h h2
  rw [hF]
  unfold reachG isVx
  rw [← hB, h, decide_eq_true h2]; rfl
 replace hno := hidI hno
 replace hyes := hidI hyes
 replace hF := hidI hF
 replace hn := hidI hn
 replace hw1 := hidI hw1
 replace h := hidI h
 have hnil : ∀ W : World, Below w.heap.size w W → F = [] → Hid (IntsRet w F (.returned (.slice none 0 0)) W) := by
  rintro W hW rfl
  exact hidI ⟨_, rfl, ⟨by simp, .inl ⟨rfl, rfl⟩⟩, hW⟩
 go_enter Tryz.func151, Tryz.ntmps151
 go_wp2_with fail
 rw [← hw1.out]
 refine hcf.mono ?_
 rintro e w2 ⟨rfl, hb2⟩
 clear hcf
 replace g0 := below_cell g0 hb2 hs1
 replace g1 := below_cell g1 hb2 hs1
 replace g2 := below_cell g2 hb2 hs1
 have hb12 := hidI (hb1.trans (hb2.mono hb1.size))
 have hs2 : w.heap.size < w2.heap.size := Nat.lt_of_lt_of_le hs1 hb2.size
 clear hb2
 cases B with
 | false =>
  have hfin := hnil w2 hb12.out (hno.out (.inl rfl))
  clear hnil
  replace hB := hidI hB
  go_wp2
  go_ret
  exact hfin.out
 | true =>
 have hlim := isGr_lim hB.symm
 have hE := hidI (endsIn_of hB.symm)
 have hci := gpVertex w2 r s x a n cap
 by_cases hv : 0 ≤ x ∧ x < s
 case neg =>
  have hd : decide (0 ≤ x ∧ x < s) = false := decide_eq_false hv
  rw [hd] at hci
  have hnil2 := fun W hW => hnil W hW (hno.out (.inr hv))
  clear hnil
  replace hnil2 := hidI hnil2
  replace hB := hidI hB
  replace hlim := hidI hlim
  replace hv := hidI hv
  go_wp2_with (go_at_call 172; refine hci.mono ?_; rintro e w3 ⟨rfl, hb3⟩; have hfin := hnil2.out w3 (hb12.out.trans (hb3.mono hb12.out.size)))
  go_ret
  exact hfin.out
 have hd : decide (0 ≤ x ∧ x < s) = true := decide_eq_true hv
 rw [hd] at hci
 have hfin := hidI (hyes.out rfl (by omega))
 obtain ⟨sN, rfl⟩ : ∃ k : Nat, s = (k : Int) := ⟨s.toNat, by omega⟩
 obtain ⟨xN, rfl⟩ : ∃ k : Nat, x = (k : Int) := ⟨x.toNat, by omega⟩
 have hs40 : sN ≤ 40 := by omega
 have hx40 : xN < sN := by omega
 clear hnil
 replace hB := hidI hB
 replace hlim := hidI hlim
 replace hv := hidI hv
 replace hno := hidI hno
 have hE2 : EndsIn sN es := by have := hE.out; simpa using this
 replace hE2 := hidI hE2
 go_upto_region 4 with (go_at_call 172; refine hci.mono ?_; rintro e w3 ⟨rfl, hb3⟩)
 have hs3 : w.heap.size < w3.heap.size := Nat.lt_of_lt_of_le hs2 hb3.size
 have p1 := below_cell g1 hb3 hs2
 have p2 := below_cell g2 hb3 hs2
 have hb13 := hidI (hb12.out.trans (hb3.mono hb12.out.size))
 have hrd := hidI ((h.out.below hb13.out).mono hb13.out.size)
 clear hci g0 g1 g2 hb3 hd
 obtain ⟨w4, hw4⟩ := exq (w3.alloc (.cells #[.bool false, .bool false, .bool false, .bool false, .bool false, .bool false, .bool false, .bool false, .bool false, .bool false, .bool false, .bool false, .bool false, .bool false, .bool false, .bool false, .bool false, .bool false, .bool false, .bool false, .bool false, .bool false, .bool false, .bool false, .bool false, .bool false, .bool false, .bool false, .bool false, .bool false, .bool false, .bool false, .bool false, .bool false, .bool false, .bool false, .bool false, .bool false, .bool false, .bool false] 130))
 have hG4 : BoolsAt w4 w3.heap.size [] := by
  rw [hw4]
  exact BoolsAt.none40 w3
 have hb4 : Below w3.heap.size w3 w4 := by rw [hw4]; exact (Below.refl _ _).alloc (Nat.le_refl _) _
 have cX := hG4.cell xN (by omega)
 rw [show decide (((xN : Nat) : Int) ∈ ([] : List Int)) = false from rfl] at cX
 have fX := fun j => hG4.frozen j
 have e1 : (w4.setCell ⟨w3.heap.size, xN, none⟩ (.bool true)).cell? ⟨w.heap.size, 1, none⟩ = some (.int .i64 (sN : Int)) := setCell_cell (below_cell p1 hb4 hs3) (by omega)
 have hG5 := hidI (hG4.set (L' := [(xN : Int)]) xN (by omega) (fun u hu => cons_set))
 have hb5 := hidI (hb4.setCell (p := ⟨w3.heap.size, xN, none⟩) (Nat.le_refl _) (.bool true))
 clear hb4 hG4
 rw [← hw4]
 replace hw4 := hidI hw4
 go_wp2
 go_loopg [23] sN (fun g i wr => ∃ k : Nat, k + g = sN ∧ i = .int .i64 k ∧ Hid (BoolsAt wr w3.heap.size (passN es k [(xN : Int)])) ∧ Hid (Below w3.heap.size w3 wr))
 case atStart => exact ⟨0, by omega, rfl, hG5, hb5⟩
 case round =>
  clear e1 cX fX hG5 hb5
  obtain ⟨k, hk, rfl, hG, hb⟩ := hrel
  have q1 := below_cell p1 hb.out hs3
  have q2 := below_cell p2 hb.out hs3
  obtain ⟨X, hX⟩ := exq (passN es k [(xN : Int)])
  have hnext : passN es (k + 1) [(xN : Int)] = passE es X := by rw [hX]; rfl
  rw [← hX] at hG
  replace hX := hidI hX
  replace hnext := hidI hnext
  by_cases hlt : k < sN
  · have hki : (k : Int) < (sN : Int) := by omega
    replace hk := hidI hk
    go_wp2
    go_loopg [28] n (fun g u wr => ∃ j : Nat, j + g = n ∧ u = .int .i64 j ∧ Hid (BoolsAt wr w3.heap.size (passE (es.take j) X)) ∧ Hid (Below w3.heap.size w3 wr))
    case atStart => exact ⟨0, by omega, rfl, hG, hb⟩
    case round =>
     clear hG hb q1 q2
     obtain ⟨j, hj, rfl, hG, hb⟩ := hrel
     have hsz2 := hb.out.size
     obtain ⟨L, hL⟩ := exq (passE (es.take j) X)
     rw [← hL] at hG
     by_cases hlt2 : j < n
     · have hnx := passE_next (es := es) (acc := X) (j := j) (by have := hn.out; omega)
       rw [← hL] at hnx
       obtain ⟨b, off, rfl, hBl, c0, c1, c2⟩ := ReadE.at3 (hrd.out.below hb.out) j (by have := hn.out; omega)
       have hmem : es.getD j e0 ∈ es := by
        have hkl : j < es.length := by have := hn.out; omega
        rw [List.getD_eq_getElem?_getD, List.getElem?_eq_getElem hkl]
        exact List.getElem_mem hkl
       have hEj := hE2.out _ hmem
       obtain ⟨fN, hf⟩ : ∃ z : Nat, (es.getD j e0).1 = (z : Int) := ⟨(es.getD j e0).1.toNat, by omega⟩
       obtain ⟨l, hll⟩ := exq ((es.getD j e0).2.1)
       obtain ⟨tN, ht⟩ : ∃ z : Nat, (es.getD j e0).2.2 = (z : Int) := ⟨(es.getD j e0).2.2.toNat, by omega⟩
       have hke : es.getD j e0 = ((fN : Int), l, (tN : Int)) := by rw [← hf, hll, ← ht]
       rw [hf] at c0 hEj
       rw [← hll] at c1
       rw [ht] at c2 hEj
       rw [hke] at hnx
       have hf40 : fN < 40 := by omega
       have ht40 : tN < 40 := by omega
       have hf40i : (fN : Int) < 40 := by omega
       have ht40i : (tN : Int) < 40 := by omega
       have hji : (j : Int) < (n : Int) := by omega
       obtain ⟨w5, hw5⟩ := exq (wr.alloc (.cells #[.int .i64 (fN : Int), .int .i64 l, .int .i64 (tN : Int)] 72))
       have hb5 : Below wr.heap.size wr w5 := by rw [hw5]; exact (Below.refl _ _).alloc (Nat.le_refl _) _
       have hs5 : wr.heap.size < w5.heap.size := by rw [hw5]; simp
       obtain ⟨x0, x1, x2⟩ := box3 hw5
       have hGlt := hG.out.lt
       have hG5 := hG.out.below hb5 hGlt
       have cF := hG5.cell fN hf40
       have cT := hG5.cell tN ht40
       have hb15 := hidI (hb.out.trans (hb5.mono hsz2))
       replace hf := hidI hf
       replace hll := hidI hll
       replace ht := hidI ht
       replace hke := hidI hke
       replace hj := hidI hj
       replace hL := hidI hL
       replace hw5 := hidI hw5
       replace hEj := hidI hEj
       clear hG hb hb5 hmem
       by_cases q1 : (fN : Int) ∈ L
       · have d1 : decide ((fN : Int) ∈ L) = true := decide_eq_true q1
         have hor : (fN : Int) ∈ L ∨ (tN : Int) ∈ L := .inl q1
         rw [d1] at cF
         have cF' := cF
         rw [hw5.out] at cF'
         clear q1 cT
         obtain ⟨wd, hwd⟩ := exq w5.drew
         have hbd5 : Below w5.heap.size w5 wd := by rw [hwd]; exact below_dn (Below.refl w5.heap.size w5) 1
         have hGd := hG5.below hbd5 (by omega)
         have hsd : w5.heap.size ≤ wd.heap.size := hbd5.size
         have xd0 := below_cell x0 hbd5 hs5
         have xd2 := below_cell x2 hbd5 hs5
         have fd := fun j => hGd.frozen j
         have cdF := hGd.cell fN hf40
         have cdT := hGd.cell tN ht40
         obtain ⟨wA, hwA⟩ := exq (wd.setCell ⟨w3.heap.size, fN, none⟩ (.bool true))
         have hA := hGd.set (L' := (fN : Int) :: L) fN hf40 (fun u hu => cons_set)
         rw [← hwA] at hA
         obtain ⟨wAB, hwAB⟩ := exq (wA.setCell ⟨w3.heap.size, tN, none⟩ (.bool true))
         have hAB := hA.set (L' := passE (es.take (j + 1)) X) tN ht40 (fun u hu => by rw [hnx]; exact touch_ft hor)
         rw [← hwAB] at hAB
         have fA := fun j => hA.frozen j
         have cAT := hA.cell tN ht40
         have xA0 : wA.cell? ⟨wr.heap.size, 0, none⟩ = some (.int .i64 (fN : Int)) := by rw [hwA]; exact setCell_cell xd0 (by omega)
         have xA2 : wA.cell? ⟨wr.heap.size, 2, none⟩ = some (.int .i64 (tN : Int)) := by rw [hwA]; exact setCell_cell xd2 (by omega)
         have xAB0 : wAB.cell? ⟨wr.heap.size, 0, none⟩ = some (.int .i64 (fN : Int)) := by rw [hwAB]; exact setCell_cell xA0 (by omega)
         have xAB2 : wAB.cell? ⟨wr.heap.size, 2, none⟩ = some (.int .i64 (tN : Int)) := by rw [hwAB]; exact setCell_cell xA2 (by omega)
         have hbwd := hb15.out.trans (hbd5.mono (by omega))
         have hbwAB : Below w3.heap.size w3 wAB := by rw [hwAB, hwA]; exact (hbwd.setCell (p := ⟨w3.heap.size, fN, none⟩) (Nat.le_refl _) _).setCell (p := ⟨w3.heap.size, tN, none⟩) (Nat.le_refl _) _
         have hBwAB := hidI hAB
         replace hbwAB := hidI hbwAB
         replace hwd := hidI hwd
         replace hwA := hidI hwA
         replace hwAB := hidI hwAB
         replace hA := hidI hA
         replace hGd := hidI hGd
         replace hbwd := hidI hbwd
         replace hnx := hidI hnx
         replace hor := hidI hor
         clear hAB hbd5
         go_wp2
         rw [← hw5.out]
         try go_wp2
         refine hideQ (fun _ _ d _ _ h => by cases d <;> exact h) (fun Q' hnorm hpan => ?_)
         refine wp_region_held_drew (S := (fun z => z.cell? ⟨wr.heap.size, 0, none⟩ = some (.int .i64 (fN : Int)) ∧ z.cell? ⟨wr.heap.size, 2, none⟩ = some (.int .i64 (tN : Int)))) (by kernel_rfl) ?_ (fun hHeld => ?_)
         · try dsimp only
           rw [← hwd.out]
           ((repeat' apply And.intro) <;> assumption)
         rw [← hwd.out] at hHeld ⊢
         refine tk 0 42 ?_
         refine tk 1 43 ?_
         refine tk 2 44 ?_
         refine tk 3 45 ?_
         refine tk 4 46 ?_
         refine rd 5 (fun K hK => ?_)
         rw [if_pos (by rfl)]
         go_simp
         rw [← hwA.out]
         refine hK.out _ _ ?_ (fun hHeld => ?_)
         · try dsimp only
           ((repeat' apply And.intro) <;> assumption)
         clear hK
         try simp only [Act.put, lyA, lyB, lyC]
         refine tk 6 47 ?_
         refine rd 7 (fun K hK => ?_)
         rw [if_pos (by rfl)]
         go_simp
         rw [← hwAB.out]
         refine hK.out _ _ ?_ (fun hHeld => ?_)
         · try dsimp only
           ((repeat' apply And.intro) <;> assumption)
         clear hK
         try simp only [Act.put, lyA, lyB, lyC]
         refine wpAnyH_done (by kernel_rfl) ?_ _
         refine hnorm _ _ ?_
         clear hnorm hpan
         repeat clear hHeld
         try simp only [Exit.then]
         go_wp2
         go_roundg (n - (j + 1))
         case rel => exact ⟨j + 1, by have := hj.out; omega, by go_num, hBwAB, hbwAB⟩
         case measure => have := hj.out; omega
       · have d1 : decide ((fN : Int) ∈ L) = false := decide_eq_false q1
         rw [d1] at cF
         have cF' := cF
         rw [hw5.out] at cF'
         by_cases q2 : (tN : Int) ∈ L
         · have d2 : decide ((tN : Int) ∈ L) = true := decide_eq_true q2
           have hor : (fN : Int) ∈ L ∨ (tN : Int) ∈ L := .inr q2
           rw [d2] at cT
           have cT' := cT
           rw [hw5.out] at cT'
           clear q1 q2
           obtain ⟨wd, hwd⟩ := exq w5.drew
           have hbd5 : Below w5.heap.size w5 wd := by rw [hwd]; exact below_dn (Below.refl w5.heap.size w5) 1
           have hGd := hG5.below hbd5 (by omega)
           have hsd : w5.heap.size ≤ wd.heap.size := hbd5.size
           have xd0 := below_cell x0 hbd5 hs5
           have xd2 := below_cell x2 hbd5 hs5
           have fd := fun j => hGd.frozen j
           have cdF := hGd.cell fN hf40
           have cdT := hGd.cell tN ht40
           obtain ⟨wA, hwA⟩ := exq (wd.setCell ⟨w3.heap.size, fN, none⟩ (.bool true))
           have hA := hGd.set (L' := (fN : Int) :: L) fN hf40 (fun u hu => cons_set)
           rw [← hwA] at hA
           obtain ⟨wAB, hwAB⟩ := exq (wA.setCell ⟨w3.heap.size, tN, none⟩ (.bool true))
           have hAB := hA.set (L' := passE (es.take (j + 1)) X) tN ht40 (fun u hu => by rw [hnx]; exact touch_ft hor)
           rw [← hwAB] at hAB
           have fA := fun j => hA.frozen j
           have cAT := hA.cell tN ht40
           have xA0 : wA.cell? ⟨wr.heap.size, 0, none⟩ = some (.int .i64 (fN : Int)) := by rw [hwA]; exact setCell_cell xd0 (by omega)
           have xA2 : wA.cell? ⟨wr.heap.size, 2, none⟩ = some (.int .i64 (tN : Int)) := by rw [hwA]; exact setCell_cell xd2 (by omega)
           have xAB0 : wAB.cell? ⟨wr.heap.size, 0, none⟩ = some (.int .i64 (fN : Int)) := by rw [hwAB]; exact setCell_cell xA0 (by omega)
           have xAB2 : wAB.cell? ⟨wr.heap.size, 2, none⟩ = some (.int .i64 (tN : Int)) := by rw [hwAB]; exact setCell_cell xA2 (by omega)
           have hbwd := hb15.out.trans (hbd5.mono (by omega))
           have hbwAB : Below w3.heap.size w3 wAB := by rw [hwAB, hwA]; exact (hbwd.setCell (p := ⟨w3.heap.size, fN, none⟩) (Nat.le_refl _) _).setCell (p := ⟨w3.heap.size, tN, none⟩) (Nat.le_refl _) _
           have hBwAB := hidI hAB
           replace hbwAB := hidI hbwAB
           replace hwd := hidI hwd
           replace hwA := hidI hwA
           replace hwAB := hidI hwAB
           replace hA := hidI hA
           replace hGd := hidI hGd
           replace hbwd := hidI hbwd
           replace hnx := hidI hnx
           replace hor := hidI hor
           clear hAB hbd5
           go_wp2
           rw [← hw5.out]
           try go_wp2
           refine hideQ (fun _ _ d _ _ h => by cases d <;> exact h) (fun Q' hnorm hpan => ?_)
           refine wp_region_held_drew (S := (fun z => z.cell? ⟨wr.heap.size, 0, none⟩ = some (.int .i64 (fN : Int)) ∧ z.cell? ⟨wr.heap.size, 2, none⟩ = some (.int .i64 (tN : Int)))) (by kernel_rfl) ?_ (fun hHeld => ?_)
           · try dsimp only
             rw [← hwd.out]
             ((repeat' apply And.intro) <;> assumption)
           rw [← hwd.out] at hHeld ⊢
           refine tk 0 42 ?_
           refine tk 1 43 ?_
           refine tk 2 44 ?_
           refine tk 3 45 ?_
           refine tk 4 46 ?_
           refine rd 5 (fun K hK => ?_)
           rw [if_pos (by rfl)]
           go_simp
           rw [← hwA.out]
           refine hK.out _ _ ?_ (fun hHeld => ?_)
           · try dsimp only
             ((repeat' apply And.intro) <;> assumption)
           clear hK
           try simp only [Act.put, lyA, lyB, lyC]
           refine tk 6 47 ?_
           refine rd 7 (fun K hK => ?_)
           rw [if_pos (by rfl)]
           go_simp
           rw [← hwAB.out]
           refine hK.out _ _ ?_ (fun hHeld => ?_)
           · try dsimp only
             ((repeat' apply And.intro) <;> assumption)
           clear hK
           try simp only [Act.put, lyA, lyB, lyC]
           refine wpAnyH_done (by kernel_rfl) ?_ _
           refine hnorm _ _ ?_
           clear hnorm hpan
           repeat clear hHeld
           try simp only [Exit.then]
           go_wp2
           go_roundg (n - (j + 1))
           case rel => exact ⟨j + 1, by have := hj.out; omega, by go_num, hBwAB, hbwAB⟩
           case measure => have := hj.out; omega
         · have d2 : decide ((tN : Int) ∈ L) = false := decide_eq_false q2
           rw [d2] at cT
           have cT' := cT
           rw [hw5.out] at cT'
           have hsame := hidI (hG5.same (L' := passE (es.take (j + 1)) X) (fun u hu => by
            rw [hnx, mem_touchE]
            constructor
            · rintro (h | ⟨h | h, _⟩)
              · exact h
              · exact absurd h q1
              · exact absurd h q2
            · exact .inl))
           replace hnx := hidI hnx
           clear q1 q2
           go_wp2
           rw [← hw5.out]
           try go_wp2
           go_roundg (n - (j + 1))
           case rel => exact ⟨j + 1, by have := hj.out; omega, by go_num, hsame, hb15⟩
           case measure => have := hj.out; omega
     · obtain rfl : j = n := by omega
       have hji : ¬ (j : Int) < (j : Int) := by omega
       have hfull : es.take j = es := List.take_of_length_le (by have := hn.out; omega)
       rw [hfull] at hL
       have hG9 := hidI (show BoolsAt wr w3.heap.size (passN es (k + 1) [(xN : Int)]) by rw [hnext.out, ← hL]; exact hG.out)
       replace hL := hidI hL
       replace hfull := hidI hfull
       replace hj := hidI hj
       go_wp2
       go_roundg (sN - (k + 1))
       case rel => exact ⟨k + 1, by have := hk.out; omega, by go_num, hG9, hb⟩
       case measure => have := hk.out; omega
  · obtain rfl : k = sN := by omega
    have hki : ¬ (k : Int) < (k : Int) := by omega
    replace hk := hidI hk
    have hGlt := hG.out.lt
    have hX' : upTo X k = F := by rw [hX.out, hfin.out]; exact upTo_all hE2.out (by omega)
    replace hX' := hidI hX'
    have hown0 := hidI (show OwnsI wr wr.heap.size (.slice none 0 0) (upTo X 0) from World.ownsRow_nil _ _ _ _)
    have hb0 := hidI (Below.refl wr.heap.size wr)
    obtain ⟨wx, hwx⟩ := exq wr
    rw [← hwx] at hG hb q1 q2 hGlt hown0 hb0 ⊢
    have hgo9 : w3.heap.size ≤ wx.heap.size := hb.out.size
    clear hwx
    go_wp2
    go_loopg [8, 9, 52] k (fun g o y i wr => ∃ j : Nat, j + g = k ∧ i = .int .i64 j ∧ Hid (OwnsI wr wx.heap.size o (upTo X j)) ∧ Hid (Below wx.heap.size wx wr))
    case atStart => exact ⟨0, by omega, rfl, hown0, hb0⟩
    case round =>
     clear hown0 hb0 q1 q2
     obtain ⟨j, hj, rfl, hown, hb9⟩ := hrel
     by_cases hlt2 : j < k
     · have hji : (j : Int) < (k : Int) := by omega
       have cJ := (hG.out.below hb9.out hGlt).cell j (by omega)
       have hj40 : (j : Int) < 40 := by omega
       have hulen := upTo_length X j
       obtain ⟨a8, m8, c8, rfl⟩ : ∃ a m c, u8 = Value.slice a m c := by
        obtain ⟨_, ⟨h1, _⟩ | ⟨g, cap, cur, h1, _⟩⟩ := hown.out <;> exact ⟨_, _, _, h1⟩
       replace hj := hidI hj
       by_cases q1 : (j : Int) ∈ X
       · have d1 : decide ((j : Int) ∈ X) = true := decide_eq_true q1
         have hnx : upTo X (j + 1) = upTo X j ++ [(j : Int)] := by rw [upTo, if_pos q1]
         rw [d1] at cJ
         replace hnx := hidI hnx
         replace q1 := hidI q1
         go_wp2_with (at_builtin; go_must (refine wpList_pushI rfl _ _ rfl wx.heap.size _ (upTo X j) _ rfl rfl (by exact hown.out) (by omega) hb9.out.size ?_))
         intro v' w' hown' hb'
         rw [← hnx.out] at hown'
         replace hown' := hidI hown'
         replace hb' := hidI (hb9.out.trans hb')
         clear hown hb9
         go_wp2
         go_roundg (k - (j + 1))
         case rel => exact ⟨j + 1, by have := hj.out; omega, by go_num, hown', hb'⟩
         case measure => have := hj.out; omega
       · have d1 : decide ((j : Int) ∈ X) = false := decide_eq_false q1
         have hnx : upTo X (j + 1) = upTo X j := by rw [upTo, if_neg q1]
         rw [d1] at cJ
         rw [← hnx] at hown
         replace hnx := hidI hnx
         replace q1 := hidI q1
         go_wp2
         go_roundg (k - (j + 1))
         case rel => exact ⟨j + 1, by have := hj.out; omega, by go_num, hown, hb9⟩
         case measure => have := hj.out; omega
     · obtain rfl : j = k := by omega
       have hji : ¬ (j : Int) < (j : Int) := by omega
       have hr : IntsRet w F (.returned u8) wr := by
        have hlen := upTo_length X j
        have hrow := hown.out.row (by omega)
        rw [hX'.out] at hrow
        exact ⟨_, rfl, hrow.wide (by omega) (Nat.le_refl _), hb13.out.trans ((hb.out.trans (hb9.out.mono hgo9)).mono hb13.out.size)⟩
       replace hr := hidI hr
       replace hj := hidI hj
       go_wp2
       go_ret
       exact hr.out
end Go.Proofs.YtpjlamnjiilgbaaGreat
