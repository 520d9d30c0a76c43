import Derived.Deep.LoopGhost
import Derived.Deep.Cut
import Derived.Test.YtpjlamnjiilgbaaGreatJ26Ba
import Derived.Test.YtpjlamnjiilgbaaGreatJ12Ba
import Derived.Test.YtpjlamnjiilgbaaGreatJ14Ba
import Derived.Test.YtpjlamnjiilgbaaGreatJ22Ba
import Derived.Test.YtpjlamnjiilgbaaGreatJ2Ba
import Derived.Test.YtpjlamnjiilgbaaGreatJ13Ba
import Derived.Test.YtpjlamnjiilgbaaGreatJ23Ba
import Derived.Test.YtpjlamnjiilgbaaGreatJ15Ba
namespace Go.Proofs.YtpjlamnjiilgbaaGreat
open Go.RowKit Go.Maps
set_option linter.unusedVariables false
set_option linter.unusedSimpArgs false
theorem set4 {w : World} {g : Nat} {T : TypeId} {x0 x1 x2 x3 : Value} (h : w.heap[g]? = some (.cells #[x0, x1, x2, x3] T (0, 0))) (v0 v1 v2 v3 : Value) :
 ((((w.setCell ⟨g, 0, none⟩ v0).setCell ⟨g, 1, none⟩ v1).setCell ⟨g, 2, none⟩ v2).setCell ⟨g, 3, none⟩ v3).heap[g]? = some (.cells #[v0, v1, v2, v3] T (0, 0)) := by
 have h3 := heap_setCell_same _ g 3 _ T v3 (heap_setCell_same _ g 2 _ T v2 (heap_setCell_same _ g 1 _ T v1 (heap_setCell_same w g 0 _ T v0 h)))
 simpa using h3
theorem below_set4 {B b : Nat} {w w' : World} {x0 x1 x2 x3 : Value} (h : Below B w w') (hb : B ≤ b) : Below B w ((((w'.setCell ⟨b, 0, none⟩ x0).setCell ⟨b, 1, none⟩ x1).setCell ⟨b, 2, none⟩ x2).setCell ⟨b, 3, none⟩ x3) :=
 (below_set3 h hb).setCell (p := ⟨b, 3, none⟩) hb x3
theorem size_set4 {b : Nat} {w : World} {x0 x1 x2 x3 : Value} : ((((w.setCell ⟨b, 0, none⟩ x0).setCell ⟨b, 1, none⟩ x1).setCell ⟨b, 2, none⟩ x2).setCell ⟨b, 3, none⟩ x3).heap.size = w.heap.size := by simp [World.setCell]
theorem box4 {w w1 : World} {x0 x1 x2 x3 : Value} {T : TypeId} (hw1 : w1 = w.alloc (.cells #[x0, x1, x2, x3] T)) : w1.cell? ⟨w.heap.size, 0, none⟩ = some x0 ∧ w1.cell? ⟨w.heap.size, 1, none⟩ = some x1 ∧ w1.cell? ⟨w.heap.size, 2, none⟩ = some x2 ∧ w1.cell? ⟨w.heap.size, 3, none⟩ = some x3 := by
 have h := heap_alloc_new w (.cells #[x0, x1, x2, x3] T)
 rw [← hw1] at h
 exact ⟨by simpa using cell_of_heap h 0, by simpa using cell_of_heap h 1, by simpa using cell_of_heap h 2, by simpa using cell_of_heap h 3⟩
theorem sizeSub : (Tryz.prog.info? 60).map (·.size) = some 4 := by kernel_rfl
def LwSub (w : World) (r s : Int) (v : Value) (es : List Ed) (e : Ending) (w' : World) : Prop :=
 (isCo r s es = true ∧ ∃ b, e = .returned (.tuple #[.agg #[.int .i64 r, .int .i64 s, v, .map (some b)], .bool true]) ∧ w.heap.size ≤ b ∧ b < w'.heap.size ∧ MapS w' b (2 * es.length) (stD es es.length) ∧ Below w.heap.size w w') ∨
 (isCo r s es = false ∧ e = .returned (.tuple #[.agg #[.int .i64 0, .int .i64 0, .slice none 0 0, .map none], .bool false]) ∧ Below w.heap.size w w')
theorem MapS.other {w w' : World} {b n : Nat} {D : DataW Unit} (h : MapS w b n D) (hb : w'.heap[b]? = w.heap[b]?) : MapS w' b n D := by
 obtain ⟨es, clock, hb', F, hs, hD⟩ := h
 exact ⟨es, clock, hb.trans hb', F, hs, hD⟩
set_option maxRecDepth 100000 in
set_option maxHeartbeats 3200000 in
theorem progSubIn (w : World) (r s : Int) (v : Value) (es : List Ed) (h : ReadE w.heap.size w v es) (hl : es.length ≤ 10000000) :
 Calls Tryz.prog 40 #[.agg #[.int .i64 r, .int .i64 s, v]] w (LwSub w r s v es) := by
 obtain ⟨a, cap, rfl, hnc⟩ := h.form
 obtain ⟨n, hn⟩ := exq es.length
 rw [← hn] at hl hnc ⊢
 rw [← hn] at h
 obtain ⟨w1, hw1⟩ := exq ((w.alloc (.cells #[.int .i64 r, .int .i64 s, .slice a n cap] 26)).alloc (.cells #[.int .i64 0, .int .i64 0, .slice none 0 0, .map none] 60))
 have hb1 : Below w.heap.size w w1 := by rw [hw1]; exact ((Below.refl _ _).alloc (Nat.le_refl _) _).alloc (by simp) _
 have hs1 : w1.heap.size = w.heap.size + 1 + 1 := by rw [hw1]; simp
 have hg := heap_box w (.cells #[.int .i64 r, .int .i64 s, .slice a n cap] 26) (.cells #[.int .i64 0, .int .i64 0, .slice none 0 0, .map none] 60)
 have hk := heap_alloc_new (w.alloc (.cells #[.int .i64 r, .int .i64 s, .slice a n cap] 26)) (.cells #[.int .i64 0, .int .i64 0, .slice none 0 0, .map none] 60)
 rw [← hw1] at hg hk
 rw [show (w.alloc (.cells #[.int .i64 r, .int .i64 s, .slice a n cap] 26)).heap.size = w.heap.size + 1 by simp] at hk
 have g0 : w1.cell? ⟨w.heap.size, 0, none⟩ = some (.int .i64 r) := by simpa using cell_of_heap hg 0
 have g1 : w1.cell? ⟨w.heap.size, 1, none⟩ = some (.int .i64 s) := by simpa using cell_of_heap hg 1
 have g2 : w1.cell? ⟨w.heap.size, 2, none⟩ = some (.slice a n cap) := by simpa using cell_of_heap hg 2
 have hsub := progIsSub w1 r s (.slice a n cap) es (by have := (h.below hb1).mono hb1.size; exact this) (by omega)
 have hst := fun (W : World) (hW : Below w.heap.size w W) => folded_any W r s (.slice a n cap) es ((h.below hW).mono hW.size) (by omega)
 have hcf : isCo r s es = true → isFo r s es = true := fun q => (co_parts q).1
 obtain ⟨B, hB⟩ := exq (isCo r s es)
 obtain ⟨Fo, hFo⟩ := exq (isFo r s es)
 rw [← hB] at hsub
 rw [← hB, ← hFo] at hcf
 have hsw : w.heap.size < w1.heap.size := by omega
 replace hB := hidI hB
 replace hFo := hidI hFo
 replace hcf := hidI hcf
 replace hst := hidI hst
 replace hn := hidI hn
 replace h := hidI h
 replace hg := hidI hg
 replace hk := hidI hk
 replace hs1 := hidI hs1
 go_enter Tryz.func40, Tryz.ntmps40
 go_upto_region 1 with fail
 rw [← hw1]
 replace hw1 := hidI hw1
 go_wp2_with fail
 refine hsub.mono ?_
 rintro e w2 ⟨rfl, hb2⟩
 clear hsub
 have hs2 := hb2.size
 replace g0 := below_cell g0 hb2 hsw
 replace g1 := below_cell g1 hb2 hsw
 replace g2 := below_cell g2 hb2 hsw
 have hbw2 := hidI (hb1.trans (hb2.mono hb1.size))
 have hR2 : w2.heap[w.heap.size + 1]? = some (.cells #[.int .i64 0, .int .i64 0, .slice none 0 0, .map none] 60 (0, 0)) := by rw [hb2.block _ (by have := hs1.out; omega)]; exact hk.out
 cases B with
 | false =>
  obtain ⟨y0, y1, y2⟩ := cell3 hR2
  have y3 := cell_of_heap hR2 3
  have f2 := fun j => frozen_of_row w2 (w.heap.size + 1) j _ _ hR2
  simp at y0 y1 y2 y3
  have hfin : LwSub w r s (.slice a n cap) es (.returned (.tuple #[.agg #[.int .i64 0, .int .i64 0, .slice none 0 0, .map none], .bool false])) ((((w2.setCell ⟨w.heap.size + 1, 0, none⟩ (.int .i64 0)).setCell ⟨w.heap.size + 1, 1, none⟩ (.int .i64 0)).setCell ⟨w.heap.size + 1, 2, none⟩ (.slice none 0 0)).setCell ⟨w.heap.size + 1, 3, none⟩ (.map none)) :=
   .inr ⟨hB.out.symm, rfl, below_set4 hbw2.out (by omega)⟩
  replace hfin := hidI hfin
  replace hR2 := hidI hR2
  replace hB := hidI hB
  clear hb2
  go_wp2
  (try simp only [Exit.inBlock, Exit.then])
  refine ret_cell2 (x := .bool false) rfl rfl rfl (set4 hR2.out _ _ _ _) Tryz.underlying60 sizeSub ?_
  exact hfin.out
 | true =>
  have hFt := hcf.out rfl
  have hcs := hst.out w2 hbw2.out
  replace hR2 := hidI hR2
  clear hb2
  go_wp2_with fail
  refine hcs.mono ?_
  rintro e w3 (⟨hf, bm, rfl, hlb, hlb2, hmap, hb3⟩ | ⟨hf, rfl, hb3⟩)
  case inr => rw [hFo.out, hf] at hFt; cases hFt
  clear hcs
  have hs3 := hb3.size
  have hws : w.heap.size < w2.heap.size := by omega
  replace g0 := below_cell g0 hb3 hws
  replace g1 := below_cell g1 hb3 hws
  replace g2 := below_cell g2 hb3 hws
  have hR3 : w3.heap[w.heap.size + 1]? = some (.cells #[.int .i64 0, .int .i64 0, .slice none 0 0, .map none] 60 (0, 0)) := by rw [hb3.block _ (by have := hs1.out; omega)]; exact hR2.out
  obtain ⟨y0, y1, y2⟩ := cell3 hR3
  have y3 := cell_of_heap hR3 3
  have f2 := fun j => frozen_of_row w3 (w.heap.size + 1) j _ _ hR3
  simp at y0 y1 y2 y3
  have hbm : bm ≠ w.heap.size + 1 := by have := hs1.out; omega
  have hfin : LwSub w r s (.slice a n cap) es (.returned (.tuple #[.agg #[.int .i64 r, .int .i64 s, .slice a n cap, .map (some bm)], .bool true])) ((((w3.setCell ⟨w.heap.size + 1, 0, none⟩ (.int .i64 r)).setCell ⟨w.heap.size + 1, 1, none⟩ (.int .i64 s)).setCell ⟨w.heap.size + 1, 2, none⟩ (.slice a n cap)).setCell ⟨w.heap.size + 1, 3, none⟩ (.map (some bm))) :=
   .inl ⟨hB.out.symm, bm, rfl, by omega, by rw [size_set4]; exact hlb2, hmap.other (by rw [Below.heap_setCell _ _ _ _ hbm, Below.heap_setCell _ _ _ _ hbm, Below.heap_setCell _ _ _ _ hbm, Below.heap_setCell _ _ _ _ hbm]), below_set4 (hbw2.out.trans (hb3.mono hbw2.out.size)) (by omega)⟩
  replace hfin := hidI hfin
  replace hR3 := hidI hR3
  replace hB := hidI hB
  replace hf := hidI hf
  replace hFt := hidI hFt
  replace hmap := hidI hmap
  replace hbm := hidI hbm
  clear hb3
  go_wp2
  (try simp only [Exit.inBlock, Exit.then])
  refine ret_cell2 (x := .bool true) rfl rfl rfl (set4 hR3.out _ _ _ _) Tryz.underlying60 sizeSub ?_
  exact hfin.out
theorem inSu_eq {r s : Int} {es : List Ed} (h : isCo r s es = true) (zs : List Int) : inSu r s es zs = (decide ((wk es 0 (redL zs)).2 = (redL zs).length) && decide ((wk es 0 (redL zs)).1 = 0)) := by
 have hl := co_lim h
 have hok : okWk r s es 0 = true := by
  unfold okWk isVx
  rw [(co_parts h).1, Bool.true_and, decide_eq_true_eq]; omega
 have hw : walkB r s es 0 (redL zs) = decide ((wk es 0 (redL zs)).2 = (redL zs).length) := by unfold walkB; rw [hok, Bool.true_and]
 unfold inSu
 rw [h, Bool.true_and]
 by_cases q : walkB r s es 0 (redL zs) = true
 · have hv : walkV r s es 0 (redL zs) = (wk es 0 (redL zs)).1 := by unfold walkV; rw [if_pos q]
   rw [hv, hw]
 · have q' : walkB r s es 0 (redL zs) = false := by simpa using q
   rw [q', Bool.false_and, ← hw, q', Bool.false_and]
set_option maxRecDepth 100000 in
set_option maxHeartbeats 3200000 in
theorem contains_any (w : World) (r s : Int) (v : Value) (es : List Ed) (bm : Nat) (vz : Value) (zs : List Int) (hv : ∃ a n c, v = Value.slice a n c) (hco : isCo r s es = true) (hmp : MapS w bm (2 * es.length) (stD es es.length)) (hlt : bm < w.heap.size) (hz : ReadI w.heap.size w vz zs) (hin : InR zs) (hlz : zs.length ≤ 10000000) :
 Calls Tryz.prog 48 #[.agg #[.int .i64 r, .int .i64 s, v, .map (some bm)], vz] w (LwBool w (inSu r s es zs)) := by
 rw [inSu_eq hco]
 obtain ⟨a, n, cap, rfl⟩ := hv
 have hz' := hz
 obtain ⟨_, az, capz, rfl, _, _⟩ := hz'
 have hcp := co_parts hco
 have hgf := fo_gr hcp.1
 have hlim := isGr_lim hgf.1
 obtain ⟨w1, hw1⟩ := exq (w.alloc (.cells #[.int .i64 r, .int .i64 s, .slice a n cap, .map (some bm)] 60))
 have hb1 : Below w.heap.size w w1 := by rw [hw1]; exact (Below.refl _ _).alloc (Nat.le_refl _) _
 have hs1 : w.heap.size < w1.heap.size := by rw [hw1]; simp
 obtain ⟨g0, g1, g2, g3⟩ := box4 hw1
 have hred := reduce_any w1 (.slice az zs.length capz) zs ((hz.below hb1).mono hb1.size) hin (by omega)
 have hin2 := redL_in hin
 have hrl := redL_length zs
 obtain ⟨RL, hRL⟩ := exq (redL zs)
 rw [← hRL] at hred hin2 hrl ⊢
 obtain ⟨WV, hWV⟩ := exq ((wk es 0 RL).1)
 obtain ⟨WN, hWN⟩ := exq ((wk es 0 RL).2)
 obtain ⟨L, hL⟩ := exq RL.length
 have hal := fun (W : World) (hW : Below w.heap.size w W) (u : Value) (hu : ReadI W.heap.size W u RL) => readAlong_any W r s es bm 0 u RL (hmp.below hW hlt) (by have := hW.size; omega) hgf.1 hgf.2 (by omega) hu hin2 (by omega)
 rw [← hWV, ← hWN] at hal ⊢
 rw [← hL] at hrl ⊢
 obtain ⟨F, hF⟩ := exq ((decide (WN = L) && decide (WV = 0)))
 rw [← hF]
 replace hal := hidI hal
 replace hRL := hidI hRL
 replace hWV := hidI hWV
 replace hWN := hidI hWN
 replace hL := hidI hL
 replace hF := hidI hF
 replace hcp := hidI hcp
 replace hgf := hidI hgf
 replace hco := hidI hco
 replace hmp := hidI hmp
 replace hz := hidI hz
 replace hin := hidI hin
 replace hin2 := hidI hin2
 go_enter Tryz.func48, Tryz.ntmps48
 go_upto_region 1 with fail
 rw [← hw1]
 replace hw1 := hidI hw1
 go_wp2_with fail
 refine hred.mono ?_
 rintro e w2 ⟨v1, rfl, hr1, hb2⟩
 clear hred
 replace g3 := below_cell g3 hb2 hs1
 clear g0 g1 g2
 have hb12 := hidI (hb1.trans (hb2.mono hb1.size))
 have hrd := hr1.read
 obtain ⟨_, a1, c1, hv1, _, _⟩ := hr1.read
 rw [← hL.out] at hv1
 subst hv1
 have hcl := hal.out w2 hb12.out _ hrd
 replace hrd := hidI hrd
 replace hr1 := hidI hr1
 go_wp2_with fail
 refine hcl.mono ?_
 rintro e w3 ⟨rfl, rfl⟩
 clear hcl
 by_cases e1 : WN = L
 · have t1 : ((WN : Int) == (L : Int)) = true := by rw [beq_iff_eq]; omega
   by_cases e2 : WV = 0
   · have t2 : (WV == 0) = true := by rw [beq_iff_eq]; exact e2
     have hfin : Hid (F = true) := hidI (by rw [hF.out, decide_eq_true e1, decide_eq_true e2]; rfl)
     replace e1 := hidI e1
     replace e2 := hidI e2
     go_wp2
     go_ret
     exact ⟨ret_bool hfin.out.symm, hb12.out⟩
   · have t2 : (WV == 0) = false := by rw [beq_eq_false_iff_ne]; exact e2
     have hfin : Hid (F = false) := hidI (by rw [hF.out, decide_eq_true e1, decide_eq_false e2]; rfl)
     replace e1 := hidI e1
     replace e2 := hidI e2
     go_wp2
     go_ret
     exact ⟨ret_bool hfin.out.symm, hb12.out⟩
 · have t1 : ((WN : Int) == (L : Int)) = false := by rw [beq_eq_false_iff_ne]; omega
   have hfin : Hid (F = false) := hidI (by rw [hF.out, decide_eq_false e1]; rfl)
   replace e1 := hidI e1
   go_wp2
   go_ret
   exact ⟨ret_bool hfin.out.symm, hb12.out⟩
structure SubBx (w : World) (bx bm : Nat) (r s : Int) (a : Option Addr) (n cap : Nat) (es : List Ed) : Prop where
 c0 : w.cell? ⟨bx, 0, none⟩ = some (.int .i64 r)
 c1 : w.cell? ⟨bx, 1, none⟩ = some (.int .i64 s)
 c2 : w.cell? ⟨bx, 2, none⟩ = some (.slice a n cap)
 c3 : w.cell? ⟨bx, 3, none⟩ = some (.map (some bm))
 map : MapS w bm (2 * es.length) (stD es es.length)
 lx : bx < w.heap.size
 lm : bm < w.heap.size
theorem SubBx.below {w w' : World} {bx bm : Nat} {r s : Int} {a : Option Addr} {n cap : Nat} {es : List Ed} (h : SubBx w bx bm r s a n cap es) (hb : Below w.heap.size w w') : SubBx w' bx bm r s a n cap es :=
 ⟨below_cell h.c0 hb h.lx, below_cell h.c1 hb h.lx, below_cell h.c2 hb h.lx, below_cell h.c3 hb h.lx, h.map.below hb h.lm, Nat.lt_of_lt_of_le h.lx hb.size, Nat.lt_of_lt_of_le h.lm hb.size⟩
end Go.Proofs.YtpjlamnjiilgbaaGreat
namespace Go.Proofs.YtpjlamnjiilgbaaGreat
open Go.RowKit Go.Maps
set_option linter.unusedVariables false
set_option linter.unusedSimpArgs false
def nuD (X : List Ed) : Nat → DataW Unit
 | 0 => .map []
 | k + 1 => ((nuD X k).put (kS (X.getD k e0).1 (X.getD k e0).2.1) (.lit (.int .i64 ((k : Int) + 1)))).put (kS (X.getD k e0).2.2 (-(X.getD k e0).2.1)) (.lit (.int .i64 (-((k : Int) + 1))))
theorem nuD_tidy {X : List Ed} (hB : Bds X) : ∀ k, k ≤ X.length → Tidy (nuD X k) := by
 intro k
 induction k with
 | zero => intro _; exact tidy_empty
 | succ k ih =>
  intro hk
  have hb := hB k (by omega)
  exact ((ih (by omega)).put (kS_is _ _ (by omega) (by omega)) _).put (kS_is _ _ (by omega) (by omega)) _
theorem nuD_has {X : List Ed} (hB : Bds X) {v l : Int} (hv : I64 v) (hl : I64 l) : ∀ k, k ≤ X.length → (has (nuD X k) (kS v l) = true ↔ ∃ y, StepK X k v l y) := by
 intro k
 induction k with
 | zero =>
  intro _
  constructor
  · intro h; simp [nuD, has] at h
  · rintro ⟨y, i, hi, _⟩; omega
 | succ k ih =>
  intro hk
  have hb := hB k (by omega)
  have ht := (nuD_tidy hB k (by omega))
  rw [nuD, has_put_iff (ht.put (kS_is _ _ (by omega) (by omega)) _).isMap (by omega) (by omega) hv hl, has_put_iff ht.isMap (by omega) (by omega) hv hl, ih (by omega)]
  constructor
  · rintro (⟨h1, h2⟩ | ⟨h1, h2⟩ | ⟨y, h⟩)
    · exact ⟨_, k, by omega, .inr ⟨h1, h2, rfl⟩⟩
    · exact ⟨_, k, by omega, .inl ⟨h1, h2, rfl⟩⟩
    · exact ⟨y, h.more⟩
  · rintro ⟨y, i, hi, h⟩
    by_cases hik : i = k
    · subst hik
      rcases h with ⟨h1, h2, _⟩ | ⟨h1, h2, _⟩
      · exact .inr (.inl ⟨h1, h2⟩)
      · exact .inl ⟨h1, h2⟩
    · exact .inr (.inr ⟨y, i, by omega, h⟩)
theorem nuD_at {X : List Ed} (hB : Bds X) {v l : Int} (hv : I64 v) (hl : I64 l) (z : DataW Unit) : ∀ k, k ≤ X.length → has (nuD X k) (kS v l) = true →
 ∃ i y, i < k ∧ X.getD i e0 = eB v l y ∧ (nuD X k).atKey (kS v l) z = .lit (.int .i64 (sgK l i)) := by
 intro k
 induction k with
 | zero => intro _ h; simp [nuD, has] at h
 | succ k ih =>
  intro hk h
  have hb := hB k (by omega)
  have ht := (nuD_tidy hB k (by omega))
  have ht1 := ht.put (kS_is (X.getD k e0).1 (X.getD k e0).2.1 (by omega) (by omega)) (.lit (.int .i64 ((k : Int) + 1)))
  by_cases h2 : v = (X.getD k e0).2.2 ∧ l = -(X.getD k e0).2.1
  · refine ⟨k, (X.getD k e0).1, by omega, ?_, ?_⟩
    · unfold eB
      rw [if_pos (by omega), h2.1, h2.2, Int.neg_neg]
    · rw [nuD, ← h2.1, ← h2.2, atKey_put_same ht1.isMap (kS_is _ _ hv hl)]
      unfold sgK
      rw [if_neg (by omega)]
  · have n2 : kS v l ≠ kS (X.getD k e0).2.2 (-(X.getD k e0).2.1) := fun he => h2 (kS_inj hv (by omega) hl (by omega) he)
    rw [nuD, has_put_other n2] at h
    rw [nuD, atKey_put_other n2]
    by_cases h1 : v = (X.getD k e0).1 ∧ l = (X.getD k e0).2.1
    · refine ⟨k, (X.getD k e0).2.2, by omega, ?_, ?_⟩
      · unfold eB
        rw [if_neg (by omega), h1.1, h1.2]
      · rw [← h1.1, ← h1.2, atKey_put_same ht.isMap (kS_is _ _ hv hl)]
        unfold sgK
        rw [if_pos (by omega)]
    · have n1 : kS v l ≠ kS (X.getD k e0).1 (X.getD k e0).2.1 := fun he => h1 (kS_inj hv (by omega) hl (by omega) he)
      rw [has_put_other n1] at h
      rw [atKey_put_other n1]
      obtain ⟨i, y, hi, e1, e2⟩ := ih (by omega) h
      exact ⟨i, y, by omega, e1, e2⟩
theorem bds_sub {r s : Int} {es X : List Ed} (hg : isGr r s es = true) (hX : ∀ e ∈ X, e ∈ es) : Bds X := by
 intro i hi
 have hl := isGr_lim hg
 have hm : X.getD i e0 ∈ X := by rw [getE_in hi]; exact List.getElem_mem hi
 have := gr_mem8 hg (hX _ hm)
 omega
theorem nuD_look {r s : Int} {es X : List Ed} (hg : isGr r s es = true) (hf : foldB es es.length = true) (hn : X.Nodup) (hX : ∀ e ∈ X, e ∈ es) {v l y : Int} (hS : StepAt es v l y) (hv : I64 v) (hl : I64 l) :
 (has (nuD X X.length) (kS v l) = true ∧ ∃ i, i < X.length ∧ nuE X v l y = [sgK l i] ∧ (nuD X X.length).atKey (kS v l) (.lit (.int .i64 0)) = .lit (.int .i64 (sgK l i))) ∨
 (has (nuD X X.length) (kS v l) = false ∧ nuE X v l y = []) := by
 have hB := bds_sub hg hX
 cases h : has (nuD X X.length) (kS v l) with
 | true =>
  obtain ⟨i, y', hi, hE, hat⟩ := nuD_at hB hv hl (.lit (.int .i64 0)) X.length (Nat.le_refl _) h
  have hm : eB v l y' ∈ es := by rw [← hE, getE_in hi]; exact hX _ (List.getElem_mem hi)
  have hS' : StepAt es v l y' := by
   rw [step_iff]
   unfold eB at hm
   split at hm
   · exact .inr hm
   · exact .inl hm
  rw [stepAt_uniq hg hf hS' hS] at hE
  exact .inl ⟨rfl, i, hi, nuT_one hn hE _ hi (Nat.le_refl _), hat⟩
 | false =>
  refine .inr ⟨rfl, ?_⟩
  rcases nuE_cases hn v l y with h1 | ⟨i, hi, hE, _⟩
  · exact h1.2
  · exfalso
    have := (nuD_has hB hv hl X.length (Nat.le_refl _)).2 ⟨y, i, hi, by
     unfold eB at hE
     split at hE
     · right; rw [hE]; refine ⟨rfl, ?_, rfl⟩; simp
     · left; rw [hE]; exact ⟨rfl, rfl, rfl⟩⟩
    rw [h] at this
    cases this
def LwNums (w : World) (X : List Ed) (e : Ending) (w' : World) : Prop :=
 ∃ b, e = .returned (.map (some b)) ∧ w.heap.size ≤ b ∧ b < w'.heap.size ∧ MapS w' b (2 * X.length) (nuD X X.length) ∧ Below w.heap.size w w'
set_option maxRecDepth 100000 in
set_option maxHeartbeats 3200000 in
theorem nums_any (w : World) (v : Value) (X : List Ed) (hX : ReadE w.heap.size w v X) (hB : Bds X) (hl : X.length ≤ 120) :
 Calls Tryz.prog 106 #[v] w (LwNums w X) := by
 obtain ⟨a, cap, rfl, hnc⟩ := hX.form
 obtain ⟨n, hn⟩ := exq X.length
 rw [← hn] at hl hnc ⊢
 rw [← hn] at hX
 have hmm := run_makeMap_hint (P := Tryz.prog) 58 _ _ (2 * (n : Int)) Tryz.underlying58
 have h2n : IntKind.i64.wrap (2 * (n : Int)) = 2 * (n : Int) := IntWalk.i64_in _ ⟨by omega, by omega⟩
 obtain ⟨w3, hw3⟩ := exq (w.alloc (.map #[] 0))
 have hm3 : MapS w3 w.heap.size 0 (nuD X 0) := by rw [hw3]; exact World.ownsMap_made (H := Unit) w Tryz.prog 96 (plainElem Tryz.prog 3)
 have hb3 : Below w.heap.size w w3 := by rw [hw3]; exact (Below.refl _ _).alloc (Nat.le_refl _) _
 have hs3 : w.heap.size < w3.heap.size := by rw [hw3]; simp
 replace hn := hidI hn
 replace hX := hidI hX
 replace hB := hidI hB
 replace hm3 := hidI hm3
 have hw3s := hidI hw3.symm
 replace hw3 := hidI hw3
 go_enter Tryz.func106, Tryz.ntmps106
 go_upto_region 2 with fail
 rw [hw3s.out]
 go_wp2
 go_loopg [4, 5, 12] n (fun g x y i wr => ∃ k : Nat, k + g = n ∧ i = .int .i64 k ∧ Hid (MapS wr w.heap.size (2 * k) (nuD X k)) ∧ Hid (w.heap.size < wr.heap.size) ∧ Hid (Below w.heap.size w wr))
 case atStart => exact ⟨0, by omega, rfl, hm3, hidI hs3, hidI hb3⟩
 case round =>
  clear hm3
  obtain ⟨k, hk, rfl, hm, hsz, hb⟩ := hrel
  by_cases hlt : k < n
  · obtain ⟨b, off, hab, hBk, c0, c1, c2⟩ := ReadE.at3 (hX.out.below hb.out) k (by have := hn.out; omega)
    subst hab
    have hbk := hB.out k (by have := hn.out; omega)
    have hstep : nuD X (k + 1) = ((nuD X k).put (kS (X.getD k e0).1 (X.getD k e0).2.1) (.lit (.int .i64 ((k : Int) + 1)))).put (kS (X.getD k e0).2.2 (-(X.getD k e0).2.1)) (.lit (.int .i64 (-((k : Int) + 1)))) := rfl
    obtain ⟨D, hD⟩ := exq (nuD X k)
    rw [← hD] at hstep
    rw [← hD] at hm
    obtain ⟨f, hf⟩ := exq ((X.getD k e0).1)
    obtain ⟨l, hll⟩ := exq ((X.getD k e0).2.1)
    obtain ⟨t, ht⟩ := exq ((X.getD k e0).2.2)
    rw [← hf, ← hll, ← ht] at hstep hbk
    rw [← hf] at c0
    rw [← hll] at c1
    rw [← ht] at c2
    have hki : (k : Int) < (n : Int) := by omega
    have hk2a : Hid (2 * k < maxLen) := hidI (by unfold maxLen; omega)
    have hk2b : Hid (2 * k + 1 < maxLen) := hidI (by unfold maxLen; omega)
    have hmn : Hid (MapS (wr.alloc (.cells #[.int .i64 f, .int .i64 l, .int .i64 t] 72)) w.heap.size (2 * k) D) := hidI (World.ownsMap.alloc hm.out _)
    have hbn : Below w.heap.size w (wr.alloc (.cells #[.int .i64 f, .int .i64 l, .int .i64 t] 72)) := hb.out.alloc hb.out.size _
    have hsn : w.heap.size < wr.heap.size := hsz.out
    have k1 := kS_key f l (by unfold I64; omega) (by unfold I64; omega)
    have k2 := kS_key t (-l) (by unfold I64; omega) (by unfold I64; omega)
    have v1 : plainElem (H := Unit) Tryz.prog 3 (.int .i64 ((k : Int) + 1)) = some (.lit (.int .i64 ((k : Int) + 1)), []) := plainElem_int Tryz.underlying3 (WalkArith.wf_i64 (by omega))
    have v2 : plainElem (H := Unit) Tryz.prog 3 (.int .i64 (-((k : Int) + 1))) = some (.lit (.int .i64 (-((k : Int) + 1))), []) := plainElem_int Tryz.underlying3 (WalkArith.wf_i64 (by omega))
    have hneg : IntKind.i64.wrap (-l) = -l := IntWalk.i64_in _ (by omega)
    obtain ⟨p, hp⟩ := exq ((k : Int) + 1)
    have hposH : Hid (IntKind.i64.wrap ((k : Int) + 1) = p) := hidI (by rw [hp]; exact IntWalk.i64_in _ (by omega))
    have hnegH : Hid (IntKind.i64.wrap (-p) = -p) := hidI (by rw [hp]; exact IntWalk.i64_in _ (by omega))
    rw [← hp] at v1 v2 hstep
    replace hp := hidI hp
    replace hm := hmn
    clear hmn hb hsz
    replace hf := hidI hf
    replace hll := hidI hll
    replace ht := hidI ht
    replace hD := hidI hD
    replace hstep := hidI hstep
    replace hk := hidI hk
    replace hbk := hidI hbk
    replace k1 := hidI k1
    replace k2 := hidI k2
    replace v1 := hidI v1
    replace v2 := hidI v2
    go_wp2_with (at_mapUpdate; go_must (refine wpList_mapUpdate_own _ rfl _ _ _ 58 rfl 96 3 lawS Tryz.underlying58 _ w.heap.size (2 * k) D rfl hm.out hk2a.out _ (.int .i64 p) _ rfl (by first | (show Value.int IntKind.i64 ((k : Int) + 1) = Value.int IntKind.i64 p; rw [hp.out]) | (show Value.int IntKind.i64 (IntKind.i64.wrap ((k : Int) + 1)) = Value.int IntKind.i64 p; rw [hposH.out])) k1.out _ [] v1.out ?_))
    intro w5 hm5 hg5
    have hkx : w5.heap[wr.heap.size]? = some (.cells #[.int .i64 f, .int .i64 l, .int .i64 t] 72 (0, 0)) := (hg5.block wr.heap.size (by simp) (by simp; omega)).trans (heap_alloc_new _ _)
    obtain ⟨x0, x1, x2⟩ := cell3 hkx
    simp at x0 x1 x2
    have hb5 : Below w.heap.size w w5 := hbn.grown hg5 hbn.size (fun j hj => by cases hj; omega)
    have hs5 : wr.heap.size < w5.heap.size := by have := hg5.size; simp at this; omega
    replace hm5 := hidI hm5
    replace hb5 := hidI hb5
    clear hg5 hm
    replace hkx := hidI hkx
    go_wp2_with (at_mapUpdate; go_must (refine wpList_mapUpdate_own _ rfl _ _ _ 58 rfl 96 3 lawS Tryz.underlying58 _ w.heap.size (2 * k + 1) (D.put (kS f l) (.lit (.int .i64 p))) rfl hm5.out hk2b.out _ (.int .i64 (-p)) _ rfl (by first | (show Value.int IntKind.i64 (-((k : Int) + 1)) = Value.int IntKind.i64 (-p); rw [hp.out]) | (show Value.int IntKind.i64 (IntKind.i64.wrap (-((k : Int) + 1))) = Value.int IntKind.i64 (-p); rw [← hp.out, hnegH.out]) | (show Value.int IntKind.i64 (IntKind.i64.wrap (-(IntKind.i64.wrap ((k : Int) + 1)))) = Value.int IntKind.i64 (-p); rw [hposH.out, hnegH.out])) k2.out _ [] v2.out ?_))
    intro w6 hm6 hg6
    have hb6 : Below w.heap.size w w6 := hb5.out.grown hg6 hb5.out.size (fun j hj => by cases hj; omega)
    have hs6 := hg6.size
    clear hg6
    replace hm6 := hidI hm6
    clear x0 x1 x2
    have hnx : Hid (MapS w6 w.heap.size (2 * (k + 1)) (nuD X (k + 1))) := hidI (by rw [hstep.out]; exact World.ownsMap.mono hm6.out (by omega))
    have hbz := hidI hb6
    have hsz2 : Hid (w.heap.size < w6.heap.size) := hidI (by omega)
    go_wp2
    go_roundg (n - (k + 1))
    case rel => exact ⟨k + 1, by have := hk.out; omega, by go_num, hnx, hsz2, hbz⟩
    case measure => have := hk.out; omega
  · obtain rfl : k = n := by omega
    have hki : ¬ (k : Int) < (k : Int) := by omega
    have hfin : LwNums w X (.returned (.map (some w.heap.size))) wr := ⟨_, rfl, Nat.le_refl _, hsz.out, by rw [← hn.out]; exact hm.out, hb.out⟩
    replace hfin := hidI hfin
    replace hk := hidI hk
    go_wp2
    go_ret
    exact hfin.out
def riL (r s : Int) (es : List Ed) (zs : List Int) : List Int := if inSu r s es zs = true then rwN (exE r s es) es 0 (redL zs) else []
theorem riL_length (r s : Int) (es : List Ed) (zs : List Int) : (riL r s es zs).length ≤ zs.length := by
 unfold riL
 split
 · rename_i h
   have hco : isCo r s es = true := by unfold inSu at h; simp only [Bool.and_eq_true] at h; exact h.1.1
   have h1 := rwN_len (es := es) (exE_nd (co_parts hco).1) (redL zs) 0
   have h2 := redL_length zs
   omega
 · simp
theorem drop_cons {zs : List Int} {k : Nat} (h : k < zs.length) : zs.drop k = zs.getD k 0 :: zs.drop (k + 1) := by
 rw [List.drop_eq_getElem_cons h, List.getD_eq_getElem?_getD, List.getElem?_eq_getElem h]; rfl
set_option maxRecDepth 100000 in
set_option maxHeartbeats 6400000 in
theorem rewrite_any (w : World) (r s : Int) (v : Value) (es : List Ed) (bm : Nat) (vz : Value) (zs : List Int) (hco : isCo r s es = true) (h : ReadE w.heap.size w v es) (hmp : MapS w bm (2 * es.length) (stD es es.length)) (hlt : bm < w.heap.size) (hz : ReadI w.heap.size w vz zs) (hin : InR zs) (hlz : zs.length ≤ 10000000) (hsu : Rd es 0 (redL zs) 0) :
 Calls Tryz.prog 67 #[.agg #[.int .i64 r, .int .i64 s, v, .map (some bm)], vz] w (IntsRet w (rwN (exE r s es) es 0 (redL zs))) := by
 obtain ⟨a, cap, rfl, hnc⟩ := h.form
 have hz' := hz
 obtain ⟨_, az, capz, rfl, _, _⟩ := hz'
 have hfo := (co_parts hco).1
 obtain ⟨hg, hf⟩ := fo_gr hfo
 have hlim := isGr_lim hg
 have hnd := exE_nd hfo
 have hXs : ∀ e ∈ exE r s es, e ∈ es := fun e he => ((exE_mem hfo).1 he).1
 obtain ⟨n, hn⟩ := exq es.length
 obtain ⟨q, hq⟩ := exq zs.length
 rw [← hn] at hnc ⊢
 rw [← hn] at h
 rw [← hq] at hlz ⊢
 rw [← hq] at hz
 obtain ⟨w1, hw1⟩ := exq (w.alloc (.cells #[.int .i64 r, .int .i64 s, .slice a n cap, .map (some bm)] 60))
 have hb1 : Below w.heap.size w w1 := by rw [hw1]; exact (Below.refl _ _).alloc (Nat.le_refl _) _
 have hs1 : w.heap.size < w1.heap.size := by rw [hw1]; simp
 obtain ⟨x0, x1, x2, x3⟩ := box4 hw1
 obtain ⟨X, hX⟩ := exq (exE r s es)
 have hXl : X.length ≤ 120 := by rw [hX]; exact exE_length r s es
 have hcx := progExtra w1 r s (.slice a n cap) es ((h.below hb1).mono hb1.size) (by omega)
 obtain ⟨RL, hRL⟩ := exq (redL zs)
 have hRLn : RL.length ≤ 10000000 := by rw [hRL]; have := redL_length zs; omega
 obtain ⟨F, hF⟩ := exq (rwN X es 0 RL)
 have hFl : F.length ≤ 10000000 := by rw [hF]; have := rwN_len (es := es) (X := X) (by rw [hX]; exact hnd) RL 0; omega
 rw [← hX] at hcx hnd hXs
 rw [← hRL] at hsu
 rw [← hX, ← hRL, ← hF]
 have hB := bds_sub hg hXs
 have hred := fun (W : World) (hW : Below w.heap.size w W) => reduce_any W (.slice az q capz) zs ((hz.below hW).mono hW.size) hin (by omega)
 rw [← hRL] at hred
 replace hred := hidI hred
 replace hB := hidI hB
 replace hg := hidI hg
 replace hf := hidI hf
 replace hfo := hidI hfo
 replace hco := hidI hco
 replace hnd := hidI hnd
 replace hXs := hidI hXs
 replace hsu := hidI hsu
 replace hX := hidI hX
 replace hRL := hidI hRL
 replace hF := hidI hF
 replace hn := hidI hn
 replace hq := hidI hq
 replace h := hidI h
 replace hz := hidI hz
 replace hmp := hidI hmp
 replace hin := hidI hin
 replace hlim := hidI hlim
 have hw1s := hidI hw1.symm
 replace hw1 := hidI hw1
 go_enter Tryz.func67, Tryz.ntmps67
 go_upto_region 1 with fail
 rw [hw1s.out]
 go_wp2_with fail
 refine hcx.mono ?_
 rintro e w2 ⟨xa, xc, rfl, hrow2, hb2⟩
 clear hcx
 have hs2 := hb2.size
 obtain ⟨N, hN⟩ := exq X.length
 have hrd2 : ReadE w2.heap.size w2 (.slice xa X.length xc) X := hrow2.read
 rw [← hN] at hrd2 hXl ⊢
 have hnum := nums_any w2 (.slice xa N xc) X hrd2 hB.out (by have := hN; omega)
 replace x0 := below_cell x0 hb2 hs1
 replace x1 := below_cell x1 hb2 hs1
 replace x2 := below_cell x2 hb2 hs1
 replace x3 := below_cell x3 hb2 hs1
 have hb12 := hidI (hb1.trans (hb2.mono hb1.size))
 replace hrow2 := hidI hrow2
 replace hrd2 := hidI hrd2
 replace hN := hidI hN
 clear hb2
 go_wp2_with fail
 refine hnum.mono ?_
 rintro e w3 ⟨bn, rfl, hbn1, hbn2, hnm, hb3⟩
 clear hnum
 have hs3 := hb3.size
 replace x0 := below_cell x0 hb3 (by omega)
 replace x1 := below_cell x1 hb3 (by omega)
 replace x2 := below_cell x2 hb3 (by omega)
 replace x3 := below_cell x3 hb3 (by omega)
 have hb13 := hidI (hb12.out.trans (hb3.mono hb12.out.size))
 replace hnm := hidI hnm
 clear hb3
 have hcr := hred.out w3 hb13.out
 go_wp2_with fail
 refine hcr.mono ?_
 rintro e w4 ⟨vr, rfl, hrow4, hb4⟩
 clear hcr
 have hs4 := hb4.size
 obtain ⟨M, hM⟩ := exq RL.length
 have hrd4 := hrow4.read
 have hrd4' := hrd4
 obtain ⟨_, ar, cr, rfl, _, _⟩ := hrd4'
 rw [← hM] at hrd4 hRLn ⊢
 replace x0 := below_cell x0 hb4 (by omega)
 replace x1 := below_cell x1 hb4 (by omega)
 replace x2 := below_cell x2 hb4 (by omega)
 replace x3 := below_cell x3 hb4 (by omega)
 have hb14 := hidI (hb13.out.trans (hb4.mono hb13.out.size))
 have hnm4 := hidI (hnm.out.below hb4 hbn2)
 have hmp4 := hidI (hmp.out.below hb14.out hlt)
 have hw4 : w.heap.size < w4.heap.size := by omega
 have hbn4 : bn < w4.heap.size := by omega
 have hbm4 : bm < w4.heap.size := by omega
 have hst0 : Hid (Rd es 0 (RL.drop 0) 0 ∧ [] ++ rwN X es 0 (RL.drop 0) = F ∧ (0 : Int) ≤ 0 ∧ (0 : Int) < s) := hidI ⟨by rw [List.drop_zero]; exact hsu.out, by rw [List.drop_zero, List.nil_append]; exact hF.out.symm, by omega, by have := hlim.out; omega⟩
 have hown0 : Hid (OwnsI w4 w4.heap.size (.slice none 0 0) []) := hidI (World.ownsRow_nil _ _ _ _)
 replace hrd4 := hidI hrd4
 replace hrow4 := hidI hrow4
 replace hM := hidI hM
 have hb44 := hidI (Below.refl w4.heap.size w4)
 clear hb4
 go_wp2
 go_loopg [6, 7, 9, 10, 11, 12, 20] M (fun g u x9 y9 z9 k9 o9 i wr => ∃ (k : Nat) (y : Int) (acc : List Int), k + g = M ∧ i = .int .i64 k ∧ x9 = .int .i64 y ∧ Hid (Rd es y (RL.drop k) 0 ∧ acc ++ rwN X es y (RL.drop k) = F ∧ 0 ≤ y ∧ y < s) ∧ Hid (OwnsI wr w4.heap.size u acc) ∧ Hid (Below w4.heap.size w4 wr))
 case atStart => exact ⟨0, 0, [], by omega, rfl, rfl, hst0, hown0, hb44⟩
 case round =>
  clear hst0 hown0 hb44
  obtain ⟨k, y, acc, hk, rfl, rfl, hst, hown, hb⟩ := hrel
  have hbw := hidI (hb14.out.trans (hb.out.mono hb14.out.size))
  have hsr := hb.out.size
  obtain ⟨ua, um, uc, rfl⟩ := OwnsI.form4 hown.out
  by_cases hkm : k < M
  · have hki : (k : Int) < (M : Int) := by omega
    have hkl : k < RL.length := by have := hM.out; omega
    obtain ⟨hR, hacc, hy0, hys⟩ := hst.out
    rw [drop_cons hkl] at hR hacc
    obtain ⟨l, hl_⟩ := exq (RL.getD k 0)
    obtain ⟨br, orr, hra, hbr, c0⟩ := (hrd4.out.below hb.out).at2 k hkl
    subst hra
    rw [← hl_] at hR hacc c0
    obtain ⟨z, hS, hR2⟩ := hR
    have hnx := nx_at hg.out hf.out hS
    rw [rwN, hnx] at hacc
    have hvt := stepAt_vert hg.out hS
    have hlm := hlim.out
    have hky := kS_key y l (by unfold I64; omega) (by unfold I64; omega)
    have hlk := nuD_look hg.out hf.out hnd.out hXs.out hS (by unfold I64; omega) (by unfold I64; omega)
    have hsl := stD_look hg.out hf.out (v := y) (l := l) (by unfold I64; omega) (by unfold I64; omega)
    rw [hnx] at hsl
    have hat2 : (stD es es.length).atKey (kS y l) (.lit (.int .i64 0)) = .lit (.int .i64 z) := by
     rcases hsl with ⟨_, _, _, q⟩ | ⟨_, q⟩
     · exact q
     · omega
    have hal : acc.length ≤ 10000000 := by
     have := congrArg List.length hacc
     rw [List.length_append] at this
     omega
    obtain ⟨wn, hwn⟩ := exq (wr.alloc (.cells #[.int .i64 y, .int .i64 l] 96))
    have hbn : Below wr.heap.size wr wn := by rw [hwn]; exact (Below.refl _ _).alloc (Nat.le_refl _) _
    have hsn : wn.heap.size = wr.heap.size + 1 := by rw [hwn]; simp
    have hkn := heap_alloc_new wr (.cells #[.int .i64 y, .int .i64 l] 96)
    rw [← hwn] at hkn
    have p0 : wn.cell? ⟨wr.heap.size, 0, none⟩ = some (.int .i64 y) := by simpa using cell_of_heap hkn 0
    have p1 : wn.cell? ⟨wr.heap.size, 1, none⟩ = some (.int .i64 l) := by simpa using cell_of_heap hkn 1
    have hb4n := hidI (hb.out.trans (hbn.mono hb.out.size))
    have hnmn := hidI (hnm4.out.below hb4n.out hbn4)
    have hmpn := hidI (hmp4.out.below hb4n.out hbm4)
    have hownn := hidI (ownI_other hown.out fun k hk => hbn.block k (World.ownsRow.lt hown.out k hk).2)
    replace x0 := below_cell x0 hb4n.out hw4
    replace x1 := below_cell x1 hb4n.out hw4
    replace x2 := below_cell x2 hb4n.out hw4
    replace x3 := below_cell x3 hb4n.out hw4
    have hwns := hidI hwn.symm
    have hsn1 : w4.heap.size ≤ wn.heap.size := by omega
    replace hwn := hidI hwn
    replace hkn := hidI hkn
    replace hl_ := hidI hl_
    replace hnx := hidI hnx
    replace hk := hidI hk
    replace hky := hidI hky
    replace hS := hidI hS
    replace hR2 := hidI hR2
    replace hat2 := hidI hat2
    replace hsl := hidI hsl
    replace hst := hidI hst
    replace hsn := hidI hsn
    replace hvt := hidI hvt
    replace hlm := hidI hlm
    replace hacc := hidI hacc
    replace hown := hidI hown
    obtain ⟨D, hD⟩ := exq (nuD X X.length)
    obtain ⟨E, hE⟩ := exq (stD es es.length)
    have hnmD := hnmn.out
    have hmpD := hmpn.out
    have hatE := hat2.out
    rw [← hD] at hlk hnmD
    rw [← hE] at hmpD hatE
    replace hnmD := hidI hnmD
    replace hmpD := hidI hmpD
    replace hatE := hidI hatE
    replace hD := hidI hD
    replace hE := hidI hE
    go_upto_region 8 with fail
    rw [hwns.out]
    clear c0
    rcases hlk with ⟨hh, i0, hi0, hnu, hat⟩ | ⟨hh, hnu⟩
    · have hacc2 : Hid ((acc ++ [sgK l i0]) ++ rwN X es z (RL.drop (k + 1)) = F) := hidI (by rw [← hacc.out, hnu, List.append_assoc])
      obtain ⟨sg, hsg⟩ := exq (sgK l i0)
      rw [← hsg] at hat hacc2
      replace hat := hidI hat
      replace hnu := hidI hnu
      replace hsg := hidI hsg
      replace hi0 := hidI hi0
      go_upto_region 10 with (at_lookup; go_must (refine wpList_lookup_own_ok_int _ rfl _ _ 58 rfl 96 3 .i64 lawS Tryz.underlying58 Tryz.underlying3 (zeroInt _) bn _ D rfl hnmD.out _ _ rfl hky.out ?_; intro c hc hwc; obtain rfl : c = sg := by (rw [hat.out] at hc; simpa using hc.symm)))
      clear hc hwc
      go_wp2_with (at_builtin; go_must (refine wpList_pushI_at rfl _ _ rfl w4.heap.size (.slice ua um uc) acc c rfl rfl (by exact hownn.out) (by omega) hsn1 ?_))
      intro v' w6 ho6 hg6 hl6
      have hb6 : Below w4.heap.size wn w6 := ((Below.refl w4.heap.size wn).alloc (by omega) _).grown hg6 (by simp; omega) (fun k hk => (World.ownsRow.lt hownn.out k hk).1)
      have hbz := hidI (hb4n.out.trans hb6)
      have hkn6 : w6.heap[wr.heap.size]? = some (.cells #[.int .i64 y, .int .i64 l] 96 (0, 0)) := by
       rw [hg6.block wr.heap.size (by simp; have := hsn.out; omega) (fun e => by have := (World.ownsRow.lt hown.out _ e.symm).2; omega), heap_alloc_old _ _ (by have := hsn.out; omega)]
       exact hkn.out
      have p0 : w6.cell? ⟨wr.heap.size, 0, none⟩ = some (.int .i64 y) := by simpa using cell_of_heap hkn6 0
      have p1 : w6.cell? ⟨wr.heap.size, 1, none⟩ = some (.int .i64 l) := by simpa using cell_of_heap hkn6 1
      have z3 := below_cell x3 hb6 hw4
      have hmp6 := hidI (hmpD.out.below hb6 hbm4)
      have hnext : Hid (Rd es z (RL.drop (k + 1)) 0 ∧ (acc ++ [c]) ++ rwN X es z (RL.drop (k + 1)) = F ∧ 0 ≤ z ∧ z < s) := hidI ⟨hR2.out, hacc2.out, hvt.out.2.1.1, hvt.out.2.1.2⟩
      replace ho6 := hidI ho6
      replace hkn6 := hidI hkn6
      clear hg6 hl6 hb6 x0 x1 x2 x3
      go_wp2_with (at_lookup; go_must (refine wpList_lookup_own_int _ rfl _ _ 58 rfl 96 3 .i64 lawS Tryz.underlying58 Tryz.underlying3 (zeroInt _) bm _ E rfl hmp6.out _ _ rfl hky.out ?_; intro d hd hwd; obtain rfl : d = z := by (rw [hatE.out] at hd; simpa using hd.symm)))
      clear hd hwd
      go_wp2
      go_roundg (M - (k + 1))
      case rel => exact ⟨k + 1, _, _, by have := hk.out; omega, by go_num, rfl, hnext, ho6, hbz⟩
      case measure => have := hk.out; omega
    · have hacc2 : Hid (acc ++ rwN X es z (RL.drop (k + 1)) = F) := hidI (by rw [← hacc.out, hnu, List.nil_append])
      replace hnu := hidI hnu
      go_upto_region 11 with (at_lookup; go_must (refine wpList_lookup_own_ok_int _ rfl _ _ 58 rfl 96 3 .i64 lawS Tryz.underlying58 Tryz.underlying3 (zeroInt _) bn _ D rfl hnmD.out _ _ rfl hky.out ?_; intro c hc hwc))
      clear hc hwc
      have hnext : Hid (Rd es z (RL.drop (k + 1)) 0 ∧ acc ++ rwN X es z (RL.drop (k + 1)) = F ∧ 0 ≤ z ∧ z < s) := hidI ⟨hR2.out, hacc2.out, hvt.out.2.1.1, hvt.out.2.1.2⟩
      go_wp2_with (at_lookup; go_must (refine wpList_lookup_own_int _ rfl _ _ 58 rfl 96 3 .i64 lawS Tryz.underlying58 Tryz.underlying3 (zeroInt _) bm _ E rfl hmpD.out _ _ rfl hky.out ?_; intro d hd hwd; obtain rfl : d = z := by (rw [hatE.out] at hd; simpa using hd.symm)))
      clear hd hwd
      go_wp2
      go_roundg (M - (k + 1))
      case rel => exact ⟨k + 1, _, _, by have := hk.out; omega, by go_num, rfl, hnext, hownn, hb4n⟩
      case measure => have := hk.out; omega
  · obtain rfl : k = M := by omega
    have hki : ¬ (k : Int) < (k : Int) := by omega
    obtain ⟨hR, hacc, _⟩ := hst.out
    rw [List.drop_eq_nil_of_le (by have := hM.out; omega)] at hacc
    rw [rwN, List.append_nil] at hacc
    have hfin : IntsRet w F (.returned (.slice ua um uc)) wr := by
     have ho := hown.out
     rw [hacc] at ho
     exact ⟨_, rfl, (ho.row (by omega)).wide hb14.out.size (Nat.le_refl _), hbw.out⟩
    replace hfin := hidI hfin
    replace hk := hidI hk
    replace hacc := hidI hacc
    replace hR := hidI hR
    replace hst := hidI hst
    go_wp2
    go_ret
    exact hfin.out
set_option maxRecDepth 100000 in
set_option maxHeartbeats 3200000 in
theorem progRewrite (w : World) (r s : Int) (v : Value) (es : List Ed) (vz : Value) (zs : List Int) (h : ReadE w.heap.size w v es) (hz : ReadI w.heap.size w vz zs) (hin : InR zs) (hl : es.length ≤ 10000000) (hlz : zs.length ≤ 10000000) :
 Calls Tryz.prog 32 #[.agg #[.int .i64 r, .int .i64 s, v], vz] w (LwIntsBool w (riL r s es zs) (inSu r s es zs)) := by
 obtain ⟨a, cap, rfl, hnc⟩ := h.form
 have hz' := hz
 obtain ⟨_, az, capz, rfl, _, _⟩ := hz'
 obtain ⟨n, hn⟩ := exq es.length
 rw [← hn] at hl hnc ⊢
 rw [← hn] at h
 obtain ⟨m, hm⟩ := exq zs.length
 rw [← hm] at hlz ⊢
 rw [← hm] at hz
 obtain ⟨w1, hw1⟩ := exq (w.alloc (.cells #[.int .i64 r, .int .i64 s, .slice a n cap] 26))
 have hb1 : Below w.heap.size w w1 := by rw [hw1]; exact (Below.refl _ _).alloc (Nat.le_refl _) _
 have hs1 : w.heap.size < w1.heap.size := by rw [hw1]; simp
 obtain ⟨g0, g1, g2⟩ := box3 hw1
 have hsub := progSubIn w1 r s (.slice a n cap) es ((h.below hb1).mono hb1.size) (by omega)
 obtain ⟨F, hF⟩ := exq (riL r s es zs)
 obtain ⟨I, hI⟩ := exq (inSu r s es zs)
 have hno : I = false → F = [] := fun q => by rw [hF]; unfold riL; rw [if_neg (by rw [← hI, q]; decide)]
 have hyes : I = true → F = rwN (exE r s es) es 0 (redL zs) := fun q => by rw [hF]; unfold riL; rw [if_pos (by rw [← hI, q])]
 have hcon := fun (W : World) (hW : Below w.heap.size w W) (bm : Nat) (hco : isCo r s es = true) (hmp : MapS W bm (2 * es.length) (stD es es.length)) (hlt : bm < W.heap.size) => contains_any W r s (.slice a n cap) es bm (.slice az m capz) zs ⟨_, _, _, rfl⟩ hco hmp hlt ((hz.below hW).mono hW.size) hin (by omega)
 have hrew := fun (W : World) (hW : Below w.heap.size w W) (bm : Nat) (hco : isCo r s es = true) (hmp : MapS W bm (2 * es.length) (stD es es.length)) (hlt : bm < W.heap.size) (hi : I = true) => rewrite_any W r s (.slice a n cap) es bm (.slice az m capz) zs hco ((h.below hW).mono hW.size) hmp hlt ((hz.below hW).mono hW.size) hin (by omega) ((inSu_rd hco hin).1 (by rw [← hI]; exact hi))
 have hret : ∀ (W : World), Below w.heap.size w W → I = false → LwIntsBool w F I (.returned (.tuple #[.slice none 0 0, .bool false])) W := fun W hW q => by
  rw [hno q, q]
  exact ⟨_, rfl, ⟨by simp, .inl ⟨rfl, rfl⟩⟩, hW⟩
 have hcoI : isCo r s es = false → I = false := fun q => by rw [hI]; unfold inSu; rw [q]; rfl
 rw [← hI] at hcon
 rw [← hF, ← hI]
 replace hcon := hidI hcon
 replace hrew := hidI hrew
 replace hret := hidI hret
 replace hcoI := hidI hcoI
 replace hno := hidI hno
 replace hyes := hidI hyes
 replace hF := hidI hF
 replace hI := hidI hI
 replace hn := hidI hn
 replace hm := hidI hm
 replace h := hidI h
 replace hz := hidI hz
 replace hin := hidI hin
 have hw1s := hidI hw1.symm
 replace hw1 := hidI hw1
 go_enter Tryz.func32, Tryz.ntmps32
 go_upto_region 1 with fail
 rw [hw1s.out]
 go_wp2_with fail
 refine hsub.mono ?_
 rintro e w2 (⟨hco, bm, rfl, hlb, hlb2, hmap, hb2⟩ | ⟨hco, rfl, hb2⟩)
 case inr =>
  clear hsub g0 g1 g2
  have hb12 := hb1.trans (hb2.mono hb1.size)
  obtain ⟨w3, hw3⟩ := exq (w2.alloc (.cells #[.int .i64 0, .int .i64 0, .slice none 0 0, .map none] 60))
  have hb3 : Below w2.heap.size w2 w3 := by rw [hw3]; exact (Below.refl _ _).alloc (Nat.le_refl _) _
  have hfin := hidI (hret.out w3 (hb12.trans (hb3.mono hb12.size)) (hcoI.out hco))
  replace hco := hidI hco
  have hw3s := hidI hw3.symm
  replace hw3 := hidI hw3
  clear hb3
  go_upto_region 2 with fail
  rw [hw3s.out]
  go_wp2
  go_ret2
  exact hfin.out
 clear hsub g0 g1 g2
 have hb12 := hb1.trans (hb2.mono hb1.size)
 have hs2 := hb2.size
 obtain ⟨w3, hw3⟩ := exq (w2.alloc (.cells #[.int .i64 r, .int .i64 s, .slice a n cap, .map (some bm)] 60))
 have hb3 : Below w2.heap.size w2 w3 := by rw [hw3]; exact (Below.refl _ _).alloc (Nat.le_refl _) _
 have hs3 : w2.heap.size < w3.heap.size := by rw [hw3]; simp
 obtain ⟨x0, x1, x2, x3⟩ := box4 hw3
 have hb13 := hb12.trans (hb3.mono hb12.size)
 have hmap3 := hidI (hmap.below hb3 hlb2)
 have hcl := hcon.out w3 hb13 bm hco hmap3.out (by omega)
 have hw3s := hidI hw3.symm
 replace hw3 := hidI hw3
 replace hco := hidI hco
 replace hmap := hidI hmap
 replace hb13 := hidI hb13
 clear hb2 hb3
 go_upto_region 2 with fail
 rw [hw3s.out]
 cases I with
 | false =>
  go_wp2_with fail
  refine hcl.mono ?_
  rintro e w4 ⟨rfl, hb4⟩
  clear hcl
  have hfin := hidI (hret.out w4 (hb13.out.trans (hb4.mono hb13.out.size)) (by first | rfl | trivial))
  replace hI := hidI hI
  clear hb4
  go_wp2
  go_ret2
  exact hfin.out
 | true =>
  go_wp2_with fail
  refine hcl.mono ?_
  rintro e w4 ⟨rfl, hb4⟩
  clear hcl
  have hb14 := hidI (hb13.out.trans (hb4.mono hb13.out.size))
  have hrc := hrew.out w4 hb14.out bm hco.out (hmap3.out.below hb4 (by omega)) (by have := hb4.size; omega) (by first | rfl | trivial)
  rw [← hyes.out (by first | rfl | trivial)] at hrc
  replace x0 := below_cell x0 hb4 hs3
  replace x1 := below_cell x1 hb4 hs3
  replace x2 := below_cell x2 hb4 hs3
  replace x3 := below_cell x3 hb4 hs3
  replace hI := hidI hI
  clear hb4
  go_wp2_with fail
  refine hrc.mono ?_
  rintro e w5 ⟨v5, rfl, hrow5, hb5⟩
  clear hrc
  have hfin : LwIntsBool w F true (.returned (.tuple #[v5, .bool true])) w5 := ⟨_, rfl, hrow5.wide hb14.out.size (Nat.le_refl _), hb14.out.trans (hb5.mono hb14.out.size)⟩
  replace hfin := hidI hfin
  clear hrow5 hb5
  go_wp2
  go_ret2
  exact hfin.out
end Go.Proofs.YtpjlamnjiilgbaaGreat
