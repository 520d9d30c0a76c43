import Derived.Maps.OwnSet
import Derived.DeepKeys4
import Derived.Maps.OwnOps
import Derived.Deep.RegionHeld3
import Derived.Deep.Cut
import Derived.Test.YtgnomlcjikfdhaaGreatJ7Tr
import Derived.Test.YtgnomlcjikfdhaaGreatJ5Tr
import Derived.Test.YtgnomlcjikfdhaaGreatJ18Tr
namespace Go.Proofs.YtgnomlcjikfdhaaGreat
open Go.RowKit Go.Maps
set_option linter.unusedVariables false
set_option linter.unusedSimpArgs false
def kE (p : Int) (b : Bool) : Lit := .string (keyBytes [.int .i64 p, .bool b])
theorem laidOutP : laidOutB Tryz.prog = true := by kernel_rfl
theorem sizeTypes : ∃ d, Tryz.prog.types.size = d + 1 := by
 have h : Tryz.prog.types.size = (Tryz.prog.types.size - 1) + 1 := by
  have : 0 < Tryz.prog.types.size := of_decide_eq_true (by kernel_rfl)
  omega
 exact ⟨_, h⟩
abbrev I64 (v : Int) : Prop := -9223372036854775808 ≤ v ∧ v ≤ 9223372036854775807
def kS (v l : Int) : Lit := .string (keyBytes [.int .i64 v, .int .i64 l])
theorem lawS : Keyed Tryz.prog 130 := Keyed.of_law (deep_law_laid laidOutP (m := 2) (by omega) (of_decide_eq_true (by kernel_rfl)) (by kernel_rfl) (by rw [Tryz.underlying130]))
theorem keyTS : Tryz.prog.keyType 130 = true := by kernel_rfl
theorem cellsS : Tryz.prog.cellsOf 130 = 2 := by kernel_rfl
theorem cellsSi : Tryz.prog.cellsOf 3 = 1 := by kernel_rfl
theorem kS_key (v l : Int) (hv : I64 v) (hl : I64 l) : keyOf Tryz.prog 130 (.agg #[.int .i64 v, .int .i64 l]) = some (kS v l) := by
 have hwf : (Lit.int .i64 v).wf = true := WalkArith.wf_i64 hv
 have hwf2 : (Lit.int .i64 l).wf = true := WalkArith.wf_i64 hl
 obtain ⟨d, hd⟩ := sizeTypes
 unfold keyOf
 rw [Tryz.underlying130, keyTS, hd]
 simp [Value.formed, Tryz.underlying130, cellsS, cellsSi, Program.keyLits, Tryz.underlying3, Value.cells, hwf, hwf2, kS]
theorem kS_inj {p q l m : Int} (hp : I64 p) (hq : I64 q) (hl : I64 l) (hm : I64 m) (h : kS p l = kS q m) : p = q ∧ l = m := by
 have := lawS.inj (kS_key p l hp hl) (by rw [kS_key q m hq hm, h])
 simp at this
 exact this
theorem kS_is (v l : Int) (hv : I64 v) (hl : I64 l) : WideAt.IsKeyLit (kS v l) := lawS.key (kS_key v l hv hl)
def stD (es : List Ed) : Nat → DataW Unit
 | 0 => .map []
 | k + 1 => ((stD es k).put (kS (es.getD k e0).1 (es.getD k e0).2.1) (.lit (.int .i64 (es.getD k e0).2.2))).put (kS (es.getD k e0).2.2 (-(es.getD k e0).2.1)) (.lit (.int .i64 (es.getD k e0).1))
def StepK (es : List Ed) (k : Nat) (v l y : Int) : Prop :=
 ∃ i, i < k ∧ ((v = (es.getD i e0).1 ∧ l = (es.getD i e0).2.1 ∧ y = (es.getD i e0).2.2) ∨ (v = (es.getD i e0).2.2 ∧ l = -(es.getD i e0).2.1 ∧ y = (es.getD i e0).1))
theorem StepK.more {es : List Ed} {k : Nat} {v l y : Int} (h : StepK es k v l y) : StepK es (k + 1) v l y := by
 obtain ⟨i, hi, h⟩ := h
 exact ⟨i, by omega, h⟩
def Bds (es : List Ed) : Prop := ∀ i, i < es.length → (0 ≤ (es.getD i e0).1 ∧ (es.getD i e0).1 ≤ 40) ∧ (1 ≤ (es.getD i e0).2.1 ∧ (es.getD i e0).2.1 ≤ 3) ∧ (0 ≤ (es.getD i e0).2.2 ∧ (es.getD i e0).2.2 ≤ 40)
theorem bds_of {r s : Int} {es : List Ed} (h : isGr r s es = true) : Bds es := by
 intro i hi
 have hl := isGr_lim h
 have := isGr_at (by omega) h hi
 omega
theorem has_put_iff {D : DataW Unit} (hD : IsMap D) {a b v l : Int} (ha : I64 a) (hb : I64 b) (hv : I64 v) (hl : I64 l) (d : DataW Unit) :
 has (D.put (kS a b) d) (kS v l) = true ↔ (v = a ∧ l = b) ∨ has D (kS v l) = true := by
 by_cases h : v = a ∧ l = b
 · obtain ⟨rfl, rfl⟩ := h
   rw [has_put_same hD (kS_is _ _ hv hl)]
   simp
 · have hne : kS v l ≠ kS a b := fun he => h (kS_inj hv ha hl hb he)
   rw [has_put_other hne]
   simp [h]
theorem stD_tidy {es : List Ed} (hB : Bds es) : ∀ k, k ≤ es.length → Tidy (stD es k) := by
 intro k
 induction k with
 | zero => intro _; exact tidy_empty
 | succ k ih =>
  intro hk
  have hb := hB k (by omega)
  exact ((ih (by omega)).put (kS_is _ _ (by omega) (by omega)) _).put (kS_is _ _ (by omega) (by omega)) _
theorem stD_has {es : List Ed} (hB : Bds es) {v l : Int} (hv : I64 v) (hl : I64 l) : ∀ k, k ≤ es.length → (has (stD es k) (kS v l) = true ↔ ∃ y, StepK es k v l y) := by
 intro k
 induction k with
 | zero =>
  intro _
  constructor
  · intro h; simp [stD, has] at h
  · rintro ⟨y, i, hi, _⟩; omega
 | succ k ih =>
  intro hk
  have hb := hB k (by omega)
  have ht := (stD_tidy hB k (by omega))
  rw [stD, has_put_iff (ht.put (kS_is _ _ (by omega) (by omega)) _).isMap (by omega) (by omega) hv hl, has_put_iff ht.isMap (by omega) (by omega) hv hl, ih (by omega)]
  constructor
  · rintro (⟨h1, h2⟩ | ⟨h1, h2⟩ | ⟨y, h⟩)
    · exact ⟨_, k, by omega, .inr ⟨h1, h2, rfl⟩⟩
    · exact ⟨_, k, by omega, .inl ⟨h1, h2, rfl⟩⟩
    · exact ⟨y, h.more⟩
  · rintro ⟨y, i, hi, h⟩
    by_cases hik : i = k
    · subst hik
      rcases h with ⟨h1, h2, _⟩ | ⟨h1, h2, _⟩
      · exact .inr (.inl ⟨h1, h2⟩)
      · exact .inl ⟨h1, h2⟩
    · exact .inr (.inr ⟨y, i, by omega, h⟩)
theorem stD_at {es : List Ed} (hB : Bds es) {v l : Int} (hv : I64 v) (hl : I64 l) (z : DataW Unit) : ∀ k, k ≤ es.length → has (stD es k) (kS v l) = true →
 ∃ y, StepK es k v l y ∧ (stD es k).atKey (kS v l) z = .lit (.int .i64 y) := by
 intro k
 induction k with
 | zero => intro _ h; simp [stD, has] at h
 | succ k ih =>
  intro hk h
  have hb := hB k (by omega)
  have ht := (stD_tidy hB k (by omega))
  have ht1 := ht.put (kS_is (es.getD k e0).1 (es.getD k e0).2.1 (by omega) (by omega)) (.lit (.int .i64 (es.getD k e0).2.2))
  by_cases h2 : v = (es.getD k e0).2.2 ∧ l = -(es.getD k e0).2.1
  · refine ⟨(es.getD k e0).1, ⟨k, by omega, .inr ⟨h2.1, h2.2, rfl⟩⟩, ?_⟩
    rw [stD, ← h2.1, ← h2.2, atKey_put_same (by rw [h2.1]; exact ht1.isMap) (kS_is _ _ hv hl)]
  · have n2 : kS v l ≠ kS (es.getD k e0).2.2 (-(es.getD k e0).2.1) := fun he => h2 (kS_inj hv (by omega) hl (by omega) he)
    rw [stD, has_put_other n2] at h
    rw [stD, atKey_put_other n2]
    by_cases h1 : v = (es.getD k e0).1 ∧ l = (es.getD k e0).2.1
    · refine ⟨(es.getD k e0).2.2, ⟨k, by omega, .inl ⟨h1.1, h1.2, rfl⟩⟩, ?_⟩
      rw [← h1.1, ← h1.2, atKey_put_same ht.isMap (kS_is _ _ hv hl)]
    · have n1 : kS v l ≠ kS (es.getD k e0).1 (es.getD k e0).2.1 := fun he => h1 (kS_inj hv (by omega) hl (by omega) he)
      rw [has_put_other n1] at h
      rw [atKey_put_other n1]
      obtain ⟨y, hy, e⟩ := ih (by omega) h
      exact ⟨y, hy.more, e⟩
theorem first_iff {es : List Ed} (hB : Bds es) {k : Nat} (hk : k < es.length) : has (stD es k) (kS (es.getD k e0).1 (es.getD k e0).2.1) = true ↔ ∃ i, i < k ∧ (es.getD k e0).2.1 = (es.getD i e0).2.1 ∧ (es.getD k e0).1 = (es.getD i e0).1 := by
 have hb := hB k hk
 rw [stD_has hB (by omega) (by omega) k (by omega)]
 constructor
 · rintro ⟨y, i, hi, h⟩
   have hb' := hB i (by omega)
   rcases h with ⟨h1, h2, _⟩ | ⟨h1, h2, _⟩
   · exact ⟨i, hi, h2, h1⟩
   · omega
 · rintro ⟨i, hi, h2, h1⟩
   exact ⟨_, i, hi, .inl ⟨h1, h2, rfl⟩⟩
theorem second_iff {es : List Ed} (hB : Bds es) {k : Nat} (hk : k < es.length) : has (stD es k) (kS (es.getD k e0).2.2 (-(es.getD k e0).2.1)) = true ↔ ∃ i, i < k ∧ (es.getD k e0).2.1 = (es.getD i e0).2.1 ∧ (es.getD k e0).2.2 = (es.getD i e0).2.2 := by
 have hb := hB k hk
 rw [stD_has hB (by omega) (by omega) k (by omega)]
 constructor
 · rintro ⟨y, i, hi, h⟩
   have hb' := hB i (by omega)
   rcases h with ⟨h1, h2, _⟩ | ⟨h1, h2, _⟩
   · omega
   · exact ⟨i, hi, by omega, h1⟩
 · rintro ⟨i, hi, h2, h1⟩
   exact ⟨_, i, hi, .inr ⟨h1, by omega, rfl⟩⟩
theorem apart_has {es : List Ed} (hB : Bds es) {k : Nat} (hk : k < es.length) : apartE es k k = true ↔ has (stD es k) (kS (es.getD k e0).1 (es.getD k e0).2.1) = false ∧ has (stD es k) (kS (es.getD k e0).2.2 (-(es.getD k e0).2.1)) = false := by
 rw [apartE_iff, ← Bool.not_eq_true, ← Bool.not_eq_true, first_iff hB hk, second_iff hB hk]
 unfold Meets
 constructor
 · intro h
   exact ⟨fun ⟨i, hi, h2, h1⟩ => h i hi ⟨h2, .inl h1⟩, fun ⟨i, hi, h2, h1⟩ => h i hi ⟨h2, .inr h1⟩⟩
 · rintro ⟨ha, hb⟩ i hi ⟨h2, h1 | h1⟩
   · exact ha ⟨i, hi, h2, h1⟩
   · exact hb ⟨i, hi, h2, h1⟩
theorem stD_size {es : List Ed} (hB : Bds es) : ∀ k, k ≤ es.length → size (stD es k) ≤ 2 * k ∧ (size (stD es k) = 2 * k ↔ foldB es k = true) := by
 intro k
 induction k with
 | zero => intro _; simp [stD, size, foldB]
 | succ k ih =>
  intro hk
  have hb := hB k (by omega)
  have ht := (stD_tidy hB k (by omega))
  have ht1 := ht.put (kS_is (es.getD k e0).1 (es.getD k e0).2.1 (by omega) (by omega)) (.lit (.int .i64 (es.getD k e0).2.2))
  obtain ⟨i1, i2⟩ := ih (by omega)
  have s1 := size_put ht (k := kS (es.getD k e0).1 (es.getD k e0).2.1) (.lit (.int .i64 (es.getD k e0).2.2))
  have s2 := size_put ht1 (k := kS (es.getD k e0).2.2 (-(es.getD k e0).2.1)) (.lit (.int .i64 (es.getD k e0).1))
  have ho : has ((stD es k).put (kS (es.getD k e0).1 (es.getD k e0).2.1) (.lit (.int .i64 (es.getD k e0).2.2))) (kS (es.getD k e0).2.2 (-(es.getD k e0).2.1)) = has (stD es k) (kS (es.getD k e0).2.2 (-(es.getD k e0).2.1)) := by
   refine has_put_other (fun he => ?_) _
   have := (kS_inj (by omega) (by omega) (by omega) (by omega) he).2
   omega
  rw [ho] at s2
  have ha := apart_has hB (k := k) (by omega)
  rw [foldB, Bool.and_eq_true, ← i2, ha, stD, s2, s1]
  cases has (stD es k) (kS (es.getD k e0).1 (es.getD k e0).2.1) <;> cases has (stD es k) (kS (es.getD k e0).2.2 (-(es.getD k e0).2.1)) <;> simp <;> omega
theorem stD_look {r s : Int} {es : List Ed} (hg : isGr r s es = true) (hf : foldB es es.length = true) {v l : Int} (hv : I64 v) (hl : I64 l) :
 (has (stD es es.length) (kS v l) = true ∧ 0 ≤ nxV es v l ∧ nxV es v l < s ∧ (stD es es.length).atKey (kS v l) (.lit (.int .i64 0)) = .lit (.int .i64 (nxV es v l))) ∨
 (has (stD es es.length) (kS v l) = false ∧ nxV es v l = -1) := by
 have hB := bds_of hg
 cases h : has (stD es es.length) (kS v l) with
 | true =>
  obtain ⟨y, hy, e⟩ := stD_at hB hv hl (.lit (.int .i64 0)) es.length (Nat.le_refl _) h
  have hn := nx_at hg hf (v := v) (l := l) (y := y) hy
  have hb := stepAt_vert hg (v := v) (l := l) (y := y) hy
  refine .inl ⟨rfl, ?_, ?_, by rw [hn]; exact e⟩ <;> rw [hn] <;> omega
 | false =>
  refine .inr ⟨rfl, nx_no hg hl fun y hy => ?_⟩
  have := (stD_has hB hv hl es.length (Nat.le_refl _)).2 ⟨y, hy⟩
  rw [h] at this
  cases this
abbrev MapS (w : World) (b n : Nat) (D : DataW Unit) : Prop := w.ownsMap Tryz.prog 130 (plainElem Tryz.prog 3) b n D
theorem zeroInt (w : World) : (zeroValue 3).run Tryz.prog w = .ok (.int .i64 0) w := by kernel_rfl
def LwSteps (w : World) (r s : Int) (es : List Ed) (e : Ending) (w' : World) : Prop :=
 (isFo r s es = true ∧ ∃ b, e = .returned (.tuple #[.map (some b), .bool true]) ∧ w.heap.size ≤ b ∧ b < w'.heap.size ∧ MapS w' b (2 * es.length) (stD es es.length) ∧ Below w.heap.size w w') ∨
 (isFo r s es = false ∧ e = .returned (.tuple #[.map none, .bool false]) ∧ Below w.heap.size w w')
theorem MapS.below {w w' : World} {B b n : Nat} {D : DataW Unit} (h : MapS w b n D) (hb : Below B w w') (hlt : b < B) : MapS w' b n D := by
 obtain ⟨es, clock, hb', F, hs, hD⟩ := h
 exact ⟨es, clock, (hb.block b hlt).trans hb', F, hs, hD⟩
theorem run_makeMap_hint {P : Program} (t k e : TypeId) (n : Int) (hm : P.underlying t = some (.map k e)) (w : World) : (Instr.makeMap t (some (.int .i64 n))).run P w = .ok (.map (some w.heap.size)) (w.alloc (.map #[] 0)) := by
 simp [Instr.makeMap, run_underlying hm]
 rfl
set_option maxHeartbeats 3200000 in
theorem folded_any (w : World) (r s : Int) (v : Value) (es : List Ed) (h : ReadE w.heap.size w v es) (hl : es.length ≤ 100000000) :
 Calls Tryz.prog 82 #[.agg #[.int .i64 r, .int .i64 s, v]] w (LwSteps w r s es) := by
 obtain ⟨a, cap, rfl, hnc⟩ := h.form
 obtain ⟨n, hn⟩ := exq es.length
 rw [← hn] at hl hnc ⊢
 rw [← hn] at h
 obtain ⟨w1, hw1⟩ := exq (w.alloc (.cells #[.int .i64 r, .int .i64 s, .slice a n cap] 26))
 have hb1 : Below w.heap.size w w1 := by rw [hw1]; exact (Below.refl _ _).alloc (Nat.le_refl _) _
 have hs1 : w1.heap.size = w.heap.size + 1 := by rw [hw1]; simp
 have hc := progIsGr w1 r s (.slice a n cap) es ((h.below hb1).mono hb1.size) (by omega)
 obtain ⟨B, hB⟩ := exq (isGr r s es)
 rw [← hB] at hc
 obtain ⟨g0, g1, g2⟩ := box3 hw1
 have hmm := run_makeMap_hint (P := Tryz.prog) 83 _ _ (2 * (n : Int)) Tryz.underlying83
 have h2n : IntKind.i64.wrap (2 * (n : Int)) = 2 * (n : Int) := IntWalk.i64_in _ ⟨by omega, by omega⟩
 replace hn := hidI hn
 replace hw1 := hidI hw1
 replace h := hidI h
 replace hs1 := hidI hs1
 go_enter Tryz.func82, Tryz.ntmps82
 go_wp2_with fail
 rw [← hw1.out]
 refine hc.mono ?_
 rintro e w2 ⟨rfl, hb2⟩
 clear hc
 have hb12 := hb1.trans (hb2.mono hb1.size)
 cases B with
 | false =>
  have hfin := hidI (isFo_gr (r := r) (s := s) (es := es) hB.symm)
  replace hB := hidI hB
  go_wp2
  go_ret2
  exact .inr ⟨hfin.out, rfl, hb12⟩
 | true =>
 have hg := hidI hB.symm
 replace hB := hidI hB
 have hBd := hidI (bds_of hg.out)
 have hlim := hidI (isGr_lim hg.out)
 have hn120 : n ≤ 120 := by have := hlim.out; have := hn.out; omega
 replace g2 := below_cell g2 hb2 (by have := hs1.out; omega)
 clear g0 g1
 have hs2 : w.heap.size < w2.heap.size := by have := hs1.out; have := hb2.size; omega
 obtain ⟨w3, hw3⟩ := exq (w2.alloc (.map #[] 0))
 have hm3 : MapS w3 w2.heap.size 0 (stD es 0) := by rw [hw3]; exact World.ownsMap_made (H := Unit) w2 Tryz.prog 130 (plainElem Tryz.prog 3)
 have hb3 : Below w2.heap.size w2 w3 := by rw [hw3]; exact (Below.refl _ _).alloc (Nat.le_refl _) _
 have hs3 : w2.heap.size < w3.heap.size := by rw [hw3]; simp
 have g3 := below_cell g2 hb3 hs2
 have hb13 := hidI (hb12.trans (hb3.mono hb12.size))
 replace hb12 := hidI hb12
 replace hm3 := hidI hm3
 have hbm := hidI (hb3)
 clear hb2 hb3
 replace hw3 := hidI hw3
 go_wp2
 rw [← hw3.out]
 go_wp2
 go_loopg [18] n (fun g i wr => ∃ k : Nat, k + g = n ∧ i = .int .i64 k ∧ Hid (MapS wr w2.heap.size (2 * k) (stD es k)) ∧ Hid (w2.heap.size < wr.heap.size) ∧ Hid (Below w2.heap.size w2 wr))
 case atStart => exact ⟨0, by omega, rfl, hm3, hidI hs3, hbm⟩
 case round =>
  clear hm3
  obtain ⟨k, hk, rfl, hm, hsz, hb⟩ := hrel
  have g4 := below_cell g2 hb.out hs2
  by_cases hlt : k < n
  · obtain ⟨b, off, hab, hBk, c0, c1, c2⟩ := ReadE.at3 (h.out.below (hb12.out.trans (hb.out.mono hb12.out.size))) k (by have := hn.out; omega)
    subst hab
    have hbk := hBd.out k (by have := hn.out; omega)
    have hstep : stD es (k + 1) = ((stD es k).put (kS (es.getD k e0).1 (es.getD k e0).2.1) (.lit (.int .i64 (es.getD k e0).2.2))).put (kS (es.getD k e0).2.2 (-(es.getD k e0).2.1)) (.lit (.int .i64 (es.getD k e0).1)) := rfl
    obtain ⟨D, hD⟩ := exq (stD es k)
    obtain ⟨D2, hD2⟩ := exq (stD es (k + 1))
    rw [← hD, ← hD2] at hstep
    rw [← hD] at hm
    obtain ⟨f, hf⟩ := exq ((es.getD k e0).1)
    obtain ⟨l, hll⟩ := exq ((es.getD k e0).2.1)
    obtain ⟨t, ht⟩ := exq ((es.getD k e0).2.2)
    rw [← hf, ← hll, ← ht] at hstep hbk
    rw [← hf] at c0
    rw [← hll] at c1
    rw [← ht] at c2
    have hki : (k : Int) < (n : Int) := by omega
    have hmn : Hid (MapS (wr.alloc (.cells #[.int .i64 f, .int .i64 l, .int .i64 t] 36)) w2.heap.size (2 * k) D) := hidI (World.ownsMap.alloc hm.out _)
    have hbn : Below w2.heap.size w2 (wr.alloc (.cells #[.int .i64 f, .int .i64 l, .int .i64 t] 36)) := hb.out.alloc hb.out.size _
    have hsn : w2.heap.size < wr.heap.size := hsz.out
    have k1 := kS_key f l (by unfold I64; omega) (by unfold I64; omega)
    have k2 := kS_key t (-l) (by unfold I64; omega) (by unfold I64; omega)
    have v1 : plainElem (H := Unit) Tryz.prog 3 (.int .i64 t) = some (.lit (.int .i64 t), []) := plainElem_int Tryz.underlying3 (WalkArith.wf_i64 (by omega))
    have v2 : plainElem (H := Unit) Tryz.prog 3 (.int .i64 f) = some (.lit (.int .i64 f), []) := plainElem_int Tryz.underlying3 (WalkArith.wf_i64 (by omega))
    have hneg : IntKind.i64.wrap (-l) = -l := IntWalk.i64_in _ (by omega)
    replace hm := hmn
    clear hmn hb hsz
    replace hf := hidI hf
    replace hll := hidI hll
    replace ht := hidI ht
    replace hD := hidI hD
    replace hD2 := hidI hD2
    replace hstep := hidI hstep
    replace hk := hidI hk
    replace hbk := hidI hbk
    replace k1 := hidI k1
    replace k2 := hidI k2
    replace v1 := hidI v1
    replace v2 := hidI v2
    go_wp2_with (at_mapUpdate; go_must (refine wpList_mapUpdate_own _ rfl _ _ _ 83 rfl 130 3 lawS Tryz.underlying83 _ w2.heap.size (2 * k) D rfl hm.out (by unfold maxLen; omega) _ _ _ rfl rfl k1.out _ [] v1.out ?_))
    intro w5 hm5 hg5
    have hkx : w5.heap[wr.heap.size]? = some (.cells #[.int .i64 f, .int .i64 l, .int .i64 t] 36 (0, 0)) := (hg5.block wr.heap.size (by simp) (by simp; omega)).trans (heap_alloc_new _ _)
    obtain ⟨x0, x1, x2⟩ := cell3 hkx
    simp at x0 x1 x2
    have hb5 : Below w2.heap.size w2 w5 := hbn.grown hg5 hbn.size (fun j hj => by cases hj; omega)
    have hs5 : wr.heap.size < w5.heap.size := by have := hg5.size; simp at this; omega
    replace hm5 := hidI hm5
    replace hb5 := hidI hb5
    clear hg5 hm
    replace hkx := hidI hkx
    go_wp2_with (at_mapUpdate; go_must (refine wpList_mapUpdate_own _ rfl _ _ _ 83 rfl 130 3 lawS Tryz.underlying83 _ w2.heap.size (2 * k + 1) (D.put (kS f l) (.lit (.int .i64 t))) rfl hm5.out (by unfold maxLen; omega) _ _ _ rfl rfl k2.out _ [] v2.out ?_))
    intro w6 hm6 hg6
    have hb6 : Below w2.heap.size w2 w6 := hb5.out.grown hg6 hb5.out.size (fun j hj => by cases hj; omega)
    have hs6 := hg6.size
    clear hg6
    replace hm6 := hidI hm6
    clear x0 x1 x2
    have hnx : Hid (MapS w6 w2.heap.size (2 * (k + 1)) (stD es (k + 1))) := hidI (by rw [← hD2.out, hstep.out]; exact World.ownsMap.mono hm6.out (by omega))
    have hbz := hidI hb6
    have hsz2 : Hid (w2.heap.size < w6.heap.size) := hidI (by omega)
    go_wp2
    go_roundg (n - (k + 1))
    case rel => exact ⟨k + 1, by have := hk.out; omega, by go_num, hnx, hsz2, hbz⟩
    case measure => have := hk.out; omega
  · obtain rfl : k = n := by omega
    have hki : ¬ (k : Int) < (k : Int) := by omega
    replace hk := hidI hk
    have hsize := stD_size hBd.out k (by have := hn.out; omega)
    obtain ⟨m, hm0⟩ := exq (size (stD es k))
    obtain ⟨D, hD⟩ := exq (stD es k)
    rw [← hm0] at hsize
    rw [← hD] at hm hm0
    have hfo : (m = 2 * k ↔ isFo r s es = true) := by
     rw [hsize.2]
     unfold isFo
     rw [hg.out, Bool.true_and, hn.out]
    have hm1 : (size D : Int) = (m : Int) := by rw [hm0]
    have hm2 : m ≤ 2 * k := hsize.1
    have hbz := hidI (hb12.out.trans (hb.out.mono hb12.out.size))
    clear hsize
    replace hm0 := hidI hm0
    replace hD := hidI hD
    replace hfo := hidI hfo
    by_cases hmk : m = 2 * k
    · have hyes := hidI (hfo.out.1 hmk)
      have t1 : ((m : Int) != 2 * (k : Int)) = false := by rw [bne_eq_false_iff_eq]; omega
      replace hmk := hidI hmk
      go_wp2_with (at_len; refine wpList_len_own _ rfl _ 83 rfl 130 3 Tryz.underlying83 _ w2.heap.size _ D rfl hm.out ?_)
      go_wp2
      go_ret2
      exact .inl ⟨hyes.out, _, rfl, by have := hb12.out.size; omega, hsz.out, by rw [← hn.out, ← hD.out]; exact hm.out, hbz.out⟩
    · have hno : isFo r s es = false := by
       cases hq : isFo r s es with
       | false => rfl
       | true => exact absurd (hfo.out.2 hq) hmk
      have t1 : ((m : Int) != 2 * (k : Int)) = true := by rw [bne_iff_ne]; omega
      replace hno := hidI hno
      replace hmk := hidI hmk
      go_wp2_with (at_len; refine wpList_len_own _ rfl _ 83 rfl 130 3 Tryz.underlying83 _ w2.heap.size _ D rfl hm.out ?_)
      go_wp2
      go_ret2
      exact .inr ⟨hno.out, rfl, hbz.out⟩
open Go.RowKit
def BoolsAt (w : World) (G : Nat) (L : List Int) : Prop :=
 ∃ cur : Array Value, w.heap[G]? = some (.cells cur 131 (0, 0)) ∧ cur.size = 40 ∧ ∀ u : Nat, u < 40 → cur[u]? = some (.bool (decide ((u : Int) ∈ L)))
theorem BoolsAt.cell {w : World} {G : Nat} {L : List Int} (h : BoolsAt w G L) (u : Nat) (hu : u < 40) : w.cell? ⟨G, u, none⟩ = some (.bool (decide ((u : Int) ∈ L))) := by
 obtain ⟨cur, hh, hs, hc⟩ := h
 have := cell_of_heap hh u
 rw [this]; exact hc u hu
theorem BoolsAt.frozen {w : World} {G : Nat} {L : List Int} (h : BoolsAt w G L) (u : Nat) : w.frozen? ⟨G, u, none⟩ = false := by
 obtain ⟨cur, hh, hs, hc⟩ := h
 exact frozen_of_row w G u cur _ hh
theorem BoolsAt.lt {w : World} {G : Nat} {L : List Int} (h : BoolsAt w G L) : G < w.heap.size := by
 obtain ⟨cur, hh, hs, hc⟩ := h
 exact (Array.getElem?_eq_some_iff.1 hh).1
theorem BoolsAt.below {w w' : World} {B G : Nat} {L : List Int} (h : BoolsAt w G L) (hb : Below B w w') (hlt : G < B) : BoolsAt w' G L := by
 obtain ⟨cur, hh, hs, hc⟩ := h
 exact ⟨cur, by rw [hb.block G hlt]; exact hh, hs, hc⟩
theorem BoolsAt.set {w : World} {G : Nat} {L L' : List Int} (h : BoolsAt w G L) (x : Nat) (hx : x < 40) (hL : ∀ u : Nat, u < 40 → ((u : Int) ∈ L' ↔ (u : Int) ∈ L ∨ u = x)) : BoolsAt (w.setCell ⟨G, x, none⟩ (.bool true)) G L' := by
 obtain ⟨cur, hh, hs, hc⟩ := h
 refine ⟨cur.setIfInBounds x (.bool true), heap_setCell_same w G x cur _ _ hh, by simpa using hs, fun u hu => ?_⟩
 by_cases hux : u = x
 · subst hux
   rw [Array.getElem?_setIfInBounds_self_of_lt (by omega)]
   rw [decide_eq_true ((hL u hu).2 (.inr rfl))]
 · rw [Array.getElem?_setIfInBounds_ne (by omega), hc u hu]
   have := hL u hu
   by_cases hm : (u : Int) ∈ L
   · rw [decide_eq_true hm, decide_eq_true (this.2 (.inl hm))]
   · rw [decide_eq_false hm, decide_eq_false (fun h => by rcases this.1 h with h | h <;> contradiction)]
theorem BoolsAt.same {w : World} {G : Nat} {L L' : List Int} (h : BoolsAt w G L) (hL : ∀ u : Nat, u < 40 → ((u : Int) ∈ L' ↔ (u : Int) ∈ L)) : BoolsAt w G L' := by
 obtain ⟨cur, hh, hs, hc⟩ := h
 refine ⟨cur, hh, hs, fun u hu => ?_⟩
 rw [hc u hu]
 by_cases hm : (u : Int) ∈ L
 · rw [decide_eq_true hm, decide_eq_true ((hL u hu).2 hm)]
 · rw [decide_eq_false hm, decide_eq_false (fun h => hm ((hL u hu).1 h))]
theorem BoolsAt.none40 (w : World) : BoolsAt (w.alloc (.cells #[.bool false, .bool false, .bool false, .bool false, .bool false, .bool false, .bool false, .bool false, .bool false, .bool false, .bool false, .bool false, .bool false, .bool false, .bool false, .bool false, .bool false, .bool false, .bool false, .bool false, .bool false, .bool false, .bool false, .bool false, .bool false, .bool false, .bool false, .bool false, .bool false, .bool false, .bool false, .bool false, .bool false, .bool false, .bool false, .bool false, .bool false, .bool false, .bool false, .bool false] 131)) w.heap.size [] := by
 refine ⟨_, heap_alloc_new _ _, rfl, fun u hu => ?_⟩
 show (Array.replicate 40 (Value.bool false))[u]? = _
 rw [Array.getElem?_replicate, if_pos hu]
 rfl
theorem cons_set {L : List Int} {x u : Nat} : (u : Int) ∈ (x : Int) :: L ↔ (u : Int) ∈ L ∨ u = x := by
 rw [List.mem_cons]
 constructor
 · rintro (h | h)
   · exact .inr (Int.ofNat.inj h)
   · exact .inl h
 · rintro (h | h)
   · exact .inr h
   · exact .inl (by rw [h])
theorem setCell_cell {w : World} {G x b j : Nat} {v u : Value} (h : w.cell? ⟨b, j, none⟩ = some u) (hb : b ≠ G) : (w.setCell ⟨G, x, none⟩ v).cell? ⟨b, j, none⟩ = some u :=
 (World.cell?_of_block (heap_setCell_other w ⟨G, x, none⟩ b v hb)).trans h
theorem setCell_size (w : World) (p : Addr) (v : Value) : (w.setCell p v).heap.size = w.heap.size := by simp [World.setCell]
end Go.Proofs.YtgnomlcjikfdhaaGreat
