/- Subgroups, the program: subgroupIn, contains, ContainsAll, Contains. -/
import Derived.Test.YtjnhhhnehkmfmaaGreatYA
import Derived.Test.YtjnhhhnehkmfmaaGreatZB
import Derived.Test.YtjnhhhnehkmfmaaGreatRI
import Derived.Test.YtjnhhhnehkmfmaaGreatWF
import Derived.Test.YtjnhhhnehkmfmaaGreatRE
import Derived.Deep.LoopGhost
import Derived.Deep.Cut
namespace Go.Proofs.YtjnhhhnehkmfmaaGreat
open Go.RowKit Go.Maps
set_option linter.unusedVariables false
set_option linter.unusedSimpArgs false

theorem set4 {w : World} {g : Nat} {T : TypeId} {x0 x1 x2 x3 : Value} (h : w.heap[g]? = some (.cells #[x0, x1, x2, x3] T (0, 0))) (v0 v1 v2 v3 : Value) :
    ((((w.setCell ⟨g, 0, none⟩ v0).setCell ⟨g, 1, none⟩ v1).setCell ⟨g, 2, none⟩ v2).setCell ⟨g, 3, none⟩ v3).heap[g]? = some (.cells #[v0, v1, v2, v3] T (0, 0)) := by
  have h3 := heap_setCell_same _ g 3 _ T v3 (heap_setCell_same _ g 2 _ T v2 (heap_setCell_same _ g 1 _ T v1 (heap_setCell_same w g 0 _ T v0 h)))
  simpa using h3
theorem below_set4 {B b : Nat} {w w' : World} {x0 x1 x2 x3 : Value} (h : Below B w w') (hb : B ≤ b) : Below B w ((((w'.setCell ⟨b, 0, none⟩ x0).setCell ⟨b, 1, none⟩ x1).setCell ⟨b, 2, none⟩ x2).setCell ⟨b, 3, none⟩ x3) :=
  (below_set3 h hb).setCell (p := ⟨b, 3, none⟩) hb x3
theorem size_set4 {b : Nat} {w : World} {x0 x1 x2 x3 : Value} : ((((w.setCell ⟨b, 0, none⟩ x0).setCell ⟨b, 1, none⟩ x1).setCell ⟨b, 2, none⟩ x2).setCell ⟨b, 3, none⟩ x3).heap.size = w.heap.size := by simp [World.setCell]
theorem box4 {w w1 : World} {x0 x1 x2 x3 : Value} {T : TypeId} (hw1 : w1 = w.alloc (.cells #[x0, x1, x2, x3] T)) : w1.cell? ⟨w.heap.size, 0, none⟩ = some x0 ∧ w1.cell? ⟨w.heap.size, 1, none⟩ = some x1 ∧ w1.cell? ⟨w.heap.size, 2, none⟩ = some x2 ∧ w1.cell? ⟨w.heap.size, 3, none⟩ = some x3 := by
  have h := heap_alloc_new w (.cells #[x0, x1, x2, x3] T)
  rw [← hw1] at h
  exact ⟨by simpa using cell_of_heap h 0, by simpa using cell_of_heap h 1, by simpa using cell_of_heap h 2, by simpa using cell_of_heap h 3⟩
theorem sizeSub : (Tryz.prog.info? 54).map (·.size) = some 4 := by kernel_rfl
/-- What subgroupIn leaves. -/
def LwSub (w : World) (r s : Int) (v : Value) (es : List Ed) (e : Ending) (w' : World) : Prop :=
  (isCo r s es = true ∧ ∃ b, e = .returned (.tuple #[.agg #[.int .i64 r, .int .i64 s, v, .map (some b)], .bool true]) ∧ w.heap.size ≤ b ∧ b < w'.heap.size ∧ MapS w' b (2 * es.length) (stD es es.length) ∧ Below w.heap.size w w') ∨
  (isCo r s es = false ∧ e = .returned (.tuple #[.agg #[.int .i64 0, .int .i64 0, .slice none 0 0, .map none], .bool false]) ∧ Below w.heap.size w w')
theorem MapS.other {w w' : World} {b n : Nat} {D : DataW Unit} (h : MapS w b n D) (hb : w'.heap[b]? = w.heap[b]?) : MapS w' b n D := by
  obtain ⟨es, clock, hb', F, hs, hD⟩ := h
  exact ⟨es, clock, hb.trans hb', F, hs, hD⟩
set_option maxRecDepth 100000 in
set_option maxHeartbeats 3200000 in
theorem progSubIn (w : World) (r s : Int) (v : Value) (es : List Ed) (h : ReadE w.heap.size w v es) (hl : es.length ≤ 10000000) :
    Calls Tryz.prog 33 #[.agg #[.int .i64 r, .int .i64 s, v]] w (LwSub w r s v es) := by
  obtain ⟨a, cap, rfl, hnc⟩ := h.form
  obtain ⟨n, hn⟩ : ∃ n, n = es.length := ⟨_, rfl⟩
  rw [← hn] at hl hnc ⊢
  rw [← hn] at h
  obtain ⟨w1, hw1⟩ : ∃ z, z = (w.alloc (.cells #[.int .i64 r, .int .i64 s, .slice a n cap] 26)).alloc (.cells #[.int .i64 0, .int .i64 0, .slice none 0 0, .map none] 54) := ⟨_, rfl⟩
  have hb1 : Below w.heap.size w w1 := by rw [hw1]; exact ((Below.refl _ _).alloc (Nat.le_refl _) _).alloc (by simp) _
  have hs1 : w1.heap.size = w.heap.size + 1 + 1 := by rw [hw1]; simp
  have hg := heap_box w (.cells #[.int .i64 r, .int .i64 s, .slice a n cap] 26) (.cells #[.int .i64 0, .int .i64 0, .slice none 0 0, .map none] 54)
  have hk := heap_alloc_new (w.alloc (.cells #[.int .i64 r, .int .i64 s, .slice a n cap] 26)) (.cells #[.int .i64 0, .int .i64 0, .slice none 0 0, .map none] 54)
  rw [← hw1] at hg hk
  rw [show (w.alloc (.cells #[.int .i64 r, .int .i64 s, .slice a n cap] 26)).heap.size = w.heap.size + 1 by simp] at hk
  have g0 : w1.cell? ⟨w.heap.size, 0, none⟩ = some (.int .i64 r) := by simpa using cell_of_heap hg 0
  have g1 : w1.cell? ⟨w.heap.size, 1, none⟩ = some (.int .i64 s) := by simpa using cell_of_heap hg 1
  have g2 : w1.cell? ⟨w.heap.size, 2, none⟩ = some (.slice a n cap) := by simpa using cell_of_heap hg 2
  have hsub := progIsSub w1 r s (.slice a n cap) es (by have := (h.below hb1).mono hb1.size; exact this) (by omega)
  have hst := fun (W : World) (hW : Below w.heap.size w W) => folded_any W r s (.slice a n cap) es ((h.below hW).mono hW.size) (by omega)
  have hcf : isCo r s es = true → isFo r s es = true := fun q => (co_parts q).1
  obtain ⟨B, hB⟩ : ∃ B, B = isCo r s es := ⟨_, rfl⟩
  obtain ⟨Fo, hFo⟩ : ∃ B, B = isFo r s es := ⟨_, rfl⟩
  rw [← hB] at hsub
  rw [← hB, ← hFo] at hcf
  have hsw : w.heap.size < w1.heap.size := by omega
  replace hB := hidI hB
  replace hFo := hidI hFo
  replace hcf := hidI hcf
  replace hst := hidI hst
  replace hn := hidI hn
  replace h := hidI h
  replace hg := hidI hg
  replace hk := hidI hk
  replace hs1 := hidI hs1
  go_enter Tryz.func33, Tryz.ntmps33
  go_upto_region 1 with fail
  rw [← hw1]
  replace hw1 := hidI hw1
  go_wp2_with fail
  refine hsub.mono ?_
  rintro e w2 ⟨rfl, hb2⟩
  clear hsub
  have hs2 := hb2.size
  replace g0 := below_cell g0 hb2 hsw
  replace g1 := below_cell g1 hb2 hsw
  replace g2 := below_cell g2 hb2 hsw
  have hbw2 := hidI (hb1.trans (hb2.mono hb1.size))
  have hR2 : w2.heap[w.heap.size + 1]? = some (.cells #[.int .i64 0, .int .i64 0, .slice none 0 0, .map none] 54 (0, 0)) := by rw [hb2.block _ (by have := hs1.out; omega)]; exact hk.out
  cases B with
  | false =>
    have y0 := cell_of_heap hR2 0
    have y1 := cell_of_heap hR2 1
    have y2 := cell_of_heap hR2 2
    have y3 := cell_of_heap hR2 3
    have f2 := fun j => frozen_of_row w2 (w.heap.size + 1) j _ _ hR2
    simp at y0 y1 y2 y3
    have hfin : LwSub w r s (.slice a n cap) es (.returned (.tuple #[.agg #[.int .i64 0, .int .i64 0, .slice none 0 0, .map none], .bool false])) ((((w2.setCell ⟨w.heap.size + 1, 0, none⟩ (.int .i64 0)).setCell ⟨w.heap.size + 1, 1, none⟩ (.int .i64 0)).setCell ⟨w.heap.size + 1, 2, none⟩ (.slice none 0 0)).setCell ⟨w.heap.size + 1, 3, none⟩ (.map none)) :=
      .inr ⟨hB.out.symm, rfl, below_set4 hbw2.out (by omega)⟩
    replace hfin := hidI hfin
    replace hR2 := hidI hR2
    replace hB := hidI hB
    clear hb2
    go_wp2
    (try simp only [Exit.inBlock, Exit.then])
    refine ret_cell2 (x := .bool false) rfl rfl rfl (set4 hR2.out _ _ _ _) Tryz.underlying54 sizeSub ?_
    exact hfin.out
  | true =>
    have hFt := hcf.out rfl
    have hcs := hst.out w2 hbw2.out
    replace hR2 := hidI hR2
    clear hb2
    go_wp2_with fail
    refine hcs.mono ?_
    rintro e w3 (⟨hf, bm, rfl, hlb, hlb2, hmap, hb3⟩ | ⟨hf, rfl, hb3⟩)
    case inr => rw [hFo.out, hf] at hFt; cases hFt
    clear hcs
    have hs3 := hb3.size
    have hws : w.heap.size < w2.heap.size := by omega
    replace g0 := below_cell g0 hb3 hws
    replace g1 := below_cell g1 hb3 hws
    replace g2 := below_cell g2 hb3 hws
    have hR3 : w3.heap[w.heap.size + 1]? = some (.cells #[.int .i64 0, .int .i64 0, .slice none 0 0, .map none] 54 (0, 0)) := by rw [hb3.block _ (by have := hs1.out; omega)]; exact hR2.out
    have y0 := cell_of_heap hR3 0
    have y1 := cell_of_heap hR3 1
    have y2 := cell_of_heap hR3 2
    have y3 := cell_of_heap hR3 3
    have f2 := fun j => frozen_of_row w3 (w.heap.size + 1) j _ _ hR3
    simp at y0 y1 y2 y3
    have hbm : bm ≠ w.heap.size + 1 := by have := hs1.out; omega
    have hfin : LwSub w r s (.slice a n cap) es (.returned (.tuple #[.agg #[.int .i64 r, .int .i64 s, .slice a n cap, .map (some bm)], .bool true])) ((((w3.setCell ⟨w.heap.size + 1, 0, none⟩ (.int .i64 r)).setCell ⟨w.heap.size + 1, 1, none⟩ (.int .i64 s)).setCell ⟨w.heap.size + 1, 2, none⟩ (.slice a n cap)).setCell ⟨w.heap.size + 1, 3, none⟩ (.map (some bm))) :=
      .inl ⟨hB.out.symm, bm, rfl, by omega, by rw [size_set4]; exact hlb2, hmap.other (by rw [Below.heap_setCell _ _ _ _ hbm, Below.heap_setCell _ _ _ _ hbm, Below.heap_setCell _ _ _ _ hbm, Below.heap_setCell _ _ _ _ hbm]), below_set4 (hbw2.out.trans (hb3.mono hbw2.out.size)) (by omega)⟩
    replace hfin := hidI hfin
    replace hR3 := hidI hR3
    replace hB := hidI hB
    replace hf := hidI hf
    replace hFt := hidI hFt
    replace hmap := hidI hmap
    replace hbm := hidI hbm
    clear hb3
    go_wp2
    (try simp only [Exit.inBlock, Exit.then])
    refine ret_cell2 (x := .bool true) rfl rfl rfl (set4 hR3.out _ _ _ _) Tryz.underlying54 sizeSub ?_
    exact hfin.out
theorem inSu_eq {r s : Int} {es : List Ed} (h : isCo r s es = true) (zs : List Int) : inSu r s es zs = (decide ((wk es 0 (redL zs)).2 = (redL zs).length) && decide ((wk es 0 (redL zs)).1 = 0)) := by
  have hl := co_lim h
  have hok : okWk r s es 0 = true := by
    unfold okWk isVx
    rw [(co_parts h).1, Bool.true_and, decide_eq_true_eq]; omega
  have hw : walkB r s es 0 (redL zs) = decide ((wk es 0 (redL zs)).2 = (redL zs).length) := by unfold walkB; rw [hok, Bool.true_and]
  unfold inSu
  rw [h, Bool.true_and]
  by_cases q : walkB r s es 0 (redL zs) = true
  · have hv : walkV r s es 0 (redL zs) = (wk es 0 (redL zs)).1 := by unfold walkV; rw [if_pos q]
    rw [hv, hw]
  · have q' : walkB r s es 0 (redL zs) = false := by simpa using q
    rw [q', Bool.false_and, ← hw, q', Bool.false_and]
set_option maxRecDepth 100000 in
set_option maxHeartbeats 3200000 in
/-- contains, of a core with its steps. -/
theorem contains_any (w : World) (r s : Int) (v : Value) (es : List Ed) (bm : Nat) (vz : Value) (zs : List Int) (hv : ∃ a n c, v = Value.slice a n c) (hco : isCo r s es = true) (hmp : MapS w bm (2 * es.length) (stD es es.length)) (hlt : bm < w.heap.size) (hz : ReadI w.heap.size w vz zs) (hin : InR zs) (hlz : zs.length ≤ 10000000) :
    Calls Tryz.prog 36 #[.agg #[.int .i64 r, .int .i64 s, v, .map (some bm)], vz] w (LwBool w (inSu r s es zs)) := by
  rw [inSu_eq hco]
  obtain ⟨a, n, cap, rfl⟩ := hv
  have hz' := hz
  obtain ⟨_, az, capz, rfl, _, _⟩ := hz'
  have hcp := co_parts hco
  have hgf := fo_gr hcp.1
  have hlim := isGr_lim hgf.1
  obtain ⟨w1, hw1⟩ : ∃ w1, w1 = w.alloc (.cells #[.int .i64 r, .int .i64 s, .slice a n cap, .map (some bm)] 54) := ⟨_, rfl⟩
  have hb1 : Below w.heap.size w w1 := by rw [hw1]; exact (Below.refl _ _).alloc (Nat.le_refl _) _
  have hs1 : w.heap.size < w1.heap.size := by rw [hw1]; simp
  obtain ⟨g0, g1, g2, g3⟩ := box4 hw1
  have hred := reduce_any w1 (.slice az zs.length capz) zs ((hz.below hb1).mono hb1.size) hin (by omega)
  have hin2 := redL_in hin
  have hrl := redL_length zs
  obtain ⟨RL, hRL⟩ : ∃ z, z = redL zs := ⟨_, rfl⟩
  rw [← hRL] at hred hin2 hrl ⊢
  obtain ⟨WV, hWV⟩ : ∃ z, z = (wk es 0 RL).1 := ⟨_, rfl⟩
  obtain ⟨WN, hWN⟩ : ∃ z, z = (wk es 0 RL).2 := ⟨_, rfl⟩
  obtain ⟨L, hL⟩ : ∃ z, z = RL.length := ⟨_, rfl⟩
  have hal := fun (W : World) (hW : Below w.heap.size w W) (u : Value) (hu : ReadI W.heap.size W u RL) => readAlong_any W r s es bm 0 u RL (hmp.below hW hlt) (by have := hW.size; omega) hgf.1 hgf.2 (by omega) hu hin2 (by omega)
  rw [← hWV, ← hWN] at hal ⊢
  rw [← hL] at hrl ⊢
  obtain ⟨F, hF⟩ : ∃ z, z = (decide (WN = L) && decide (WV = 0)) := ⟨_, rfl⟩
  rw [← hF]
  replace hal := hidI hal
  replace hRL := hidI hRL
  replace hWV := hidI hWV
  replace hWN := hidI hWN
  replace hL := hidI hL
  replace hF := hidI hF
  replace hcp := hidI hcp
  replace hgf := hidI hgf
  replace hco := hidI hco
  replace hmp := hidI hmp
  replace hz := hidI hz
  replace hin := hidI hin
  replace hin2 := hidI hin2
  go_enter Tryz.func36, Tryz.ntmps36
  go_upto_region 1 with fail
  rw [← hw1]
  replace hw1 := hidI hw1
  go_wp2_with fail
  refine hred.mono ?_
  rintro e w2 ⟨v1, rfl, hr1, hb2⟩
  clear hred
  replace g3 := below_cell g3 hb2 hs1
  clear g0 g1 g2
  have hb12 := hidI (hb1.trans (hb2.mono hb1.size))
  have hrd := hr1.read
  obtain ⟨_, a1, c1, hv1, _, _⟩ := hr1.read
  rw [← hL.out] at hv1
  subst hv1
  have hcl := hal.out w2 hb12.out _ hrd
  replace hrd := hidI hrd
  replace hr1 := hidI hr1
  go_wp2_with fail
  refine hcl.mono ?_
  rintro e w3 ⟨rfl, rfl⟩
  clear hcl
  by_cases e1 : WN = L
  · have t1 : ((WN : Int) == (L : Int)) = true := by rw [beq_iff_eq]; omega
    by_cases e2 : WV = 0
    · have t2 : (WV == 0) = true := by rw [beq_iff_eq]; exact e2
      have hfin : Hid (F = true) := hidI (by rw [hF.out, decide_eq_true e1, decide_eq_true e2]; rfl)
      replace e1 := hidI e1
      replace e2 := hidI e2
      go_wp2
      go_ret
      exact ⟨ret_bool hfin.out.symm, hb12.out⟩
    · have t2 : (WV == 0) = false := by rw [beq_eq_false_iff_ne]; exact e2
      have hfin : Hid (F = false) := hidI (by rw [hF.out, decide_eq_true e1, decide_eq_false e2]; rfl)
      replace e1 := hidI e1
      replace e2 := hidI e2
      go_wp2
      go_ret
      exact ⟨ret_bool hfin.out.symm, hb12.out⟩
  · have t1 : ((WN : Int) == (L : Int)) = false := by rw [beq_eq_false_iff_ne]; omega
    have hfin : Hid (F = false) := hidI (by rw [hF.out, decide_eq_false e1]; rfl)
    replace e1 := hidI e1
    go_wp2
    go_ret
    exact ⟨ret_bool hfin.out.symm, hb12.out⟩
/-- A core with its steps, in a box. -/
structure SubBx (w : World) (bx bm : Nat) (r s : Int) (a : Option Addr) (n cap : Nat) (es : List Ed) : Prop where
  c0 : w.cell? ⟨bx, 0, none⟩ = some (.int .i64 r)
  c1 : w.cell? ⟨bx, 1, none⟩ = some (.int .i64 s)
  c2 : w.cell? ⟨bx, 2, none⟩ = some (.slice a n cap)
  c3 : w.cell? ⟨bx, 3, none⟩ = some (.map (some bm))
  map : MapS w bm (2 * es.length) (stD es es.length)
  lx : bx < w.heap.size
  lm : bm < w.heap.size
theorem SubBx.below {w w' : World} {bx bm : Nat} {r s : Int} {a : Option Addr} {n cap : Nat} {es : List Ed} (h : SubBx w bx bm r s a n cap es) (hb : Below w.heap.size w w') : SubBx w' bx bm r s a n cap es :=
  ⟨below_cell h.c0 hb h.lx, below_cell h.c1 hb h.lx, below_cell h.c2 hb h.lx, below_cell h.c3 hb h.lx, h.map.below hb h.lm, Nat.lt_of_lt_of_le h.lx hb.size, Nat.lt_of_lt_of_le h.lm hb.size⟩
theorem notIn_any (w : World) (u : Value) (zs : List Int) (r s : Int) (es : List Ed) (bx bm : Nat) (a : Option Addr) (n cap : Nat) (hco : isCo r s es = true) (hB : SubBx w bx bm r s a n cap es) (hz : ReadI w.heap.size w u zs) (hin : InR zs) (hlz : zs.length ≤ 10000000) :
    Calls Tryz.prog 35 #[u, .pointer (some ⟨bx, 0, none⟩)] w (LwBool w (!(inSu r s es zs))) := by
  have hcall := contains_any w r s (.slice a n cap) es bm u zs ⟨_, _, _, rfl⟩ hco hB.map hB.lm hz hin hlz
  obtain ⟨q, hq⟩ : ∃ q, q = inSu r s es zs := ⟨_, rfl⟩
  rw [← hq] at hcall ⊢
  have p0 := hB.c0
  have p1 := hB.c1
  have p2 := hB.c2
  have p3 := hB.c3
  replace hq := hidI hq
  replace hz := hidI hz
  replace hB := hidI hB
  replace hco := hidI hco
  replace hin := hidI hin
  go_enter Tryz.func35, Tryz.ntmps35
  go_wp2_with fail
  refine hcall.mono ?_
  rintro e w1 ⟨rfl, hb⟩
  clear hcall
  go_wp2
  go_ret
  exact ⟨rfl, hb⟩
def IdxIn (w : World) (q : Bool) (e : Ending) (w' : World) : Prop := ∃ z : Int, e = .returned (.int .i64 z) ∧ decide (0 ≤ z) = q ∧ Below w.heap.size w w'
set_option maxHeartbeats 3200000 in
theorem indexIn_any (w : World) (v : Value) (zss : List (List Int)) (r s : Int) (es : List Ed) (bx bm : Nat) (a0 : Option Addr) (n0 cap0 : Nat) (hco : isCo r s es = true) (hB : SubBx w bx bm r s a0 n0 cap0 es) (h : ReadSS w.heap.size w v zss) (hin : ∀ zs ∈ zss, InR zs) (hlz : ∀ i, i < zss.length → (zss.getD i []).length ≤ 10000000) :
    Calls Tryz.prog 56 #[v, .func (.func 35) #[] #[.pointer (some ⟨bx, 0, none⟩)]] w
      (IdxIn w (!(zss.all (inSu r s es)))) := by
  have h' := h
  obtain ⟨hl, a, cap, rfl, _, _⟩ := h'
  obtain ⟨n, hn⟩ : ∃ n, n = zss.length := ⟨_, rfl⟩
  rw [← hn] at hl h
  obtain ⟨A, hA⟩ : ∃ A, A = zss.all (inSu r s es) := ⟨_, rfl⟩
  rw [← hA]
  have hno : ∀ k, k < n → inSu r s es (zss.getD k []) = false → A = false := fun k hk q => by
    have h1 := inAll_no (by omega : k < zss.length) q
    unfold inAll at h1
    rw [hco, Bool.and_true] at h1
    rw [hA, h1]
  have hyes : (∀ j, j < n → inSu r s es (zss.getD j []) = true) → A = true := fun q => by
    have h1 := inAll_yes (r := r) (s := s) (es := es) (zss := zss) (fun j hj => q j (by omega))
    unfold inAll at h1
    rw [hco, Bool.and_true] at h1
    rw [hA, h1]
  replace hn := hidI hn
  replace h := hidI h
  replace hA := hidI hA
  replace hno := hidI hno
  replace hyes := hidI hyes
  replace hin := hidI hin
  replace hlz := hidI hlz
  replace hB := hidI hB
  replace hco := hidI hco
  go_enter Tryz.func56, Tryz.ntmps56
  rw [← hn.out]
  go_wp2
  go_loopg [5, 8] n (fun g x i wr => ∃ k : Nat, k + g = n ∧ i = .int .i64 k ∧ Hid (∀ j, j < k → inSu r s es (zss.getD j []) = true) ∧ Hid (Below w.heap.size w wr))
  case atStart => exact ⟨0, by omega, rfl, hidI (fun j h => by omega), hidI (Below.refl _ _)⟩
  case round =>
    obtain ⟨k, hk, rfl, heq, hb⟩ := hrel
    by_cases hlt : k < n
    · have hki : (k : Int) < (n : Int) := by omega
      obtain ⟨b, off, u, rfl, hbl, c, r0⟩ := h.out.at_ k (by have := hn.out; omega)
      have cw := below_cell c hb.out hbl
      have hcall := notIn_any wr u (zss.getD k []) r s es bx bm a0 n0 cap0 hco.out (hB.out.below hb.out) ((r0.below hb.out).mono hb.out.size) (hin.out _ (by
        have hkl : k < zss.length := by have := hn.out; omega
        rw [List.getD_eq_getElem?_getD, List.getElem?_eq_getElem hkl]
        exact List.getElem_mem hkl)) (hlz.out k (by have := hn.out; omega))
      obtain ⟨I, hI⟩ : ∃ z, z = inSu r s es (zss.getD k []) := ⟨_, rfl⟩
      rw [← hI] at hcall
      replace hI := hidI hI
      replace hk := hidI hk
      clear c r0
      cases I with
      | true =>
        have hnx : Hid (∀ j, j < k + 1 → inSu r s es (zss.getD j []) = true) := hidI fun j hj => by
          by_cases e : j = k
          · subst e; exact hI.out.symm
          · exact heq.out j (by omega)
        replace hI := hidI hI
        go_wp2_with fail
        refine hcall.mono ?_
        rintro e w3 ⟨rfl, hb3⟩
        clear hcall
        have hb13 := hidI (hb.out.trans (hb3.mono hb.out.size))
        go_wp2
        go_roundg (n - (k + 1))
        case rel => exact ⟨k + 1, by have := hk.out; omega, by go_num, hnx, hb13⟩
        case measure => have := hk.out; omega
      | false =>
        have hall : Hid (decide ((0 : Int) ≤ (k : Int)) = !A) := hidI (by rw [hno.out k hlt hI.out.symm]; simp)
        replace hI := hidI hI
        go_wp2_with fail
        refine hcall.mono ?_
        rintro e w3 ⟨rfl, hb3⟩
        clear hcall
        have hb13 := hidI (hb.out.trans (hb3.mono hb.out.size))
        go_wp2
        go_ret
        exact ⟨k, rfl, hall.out, hb13.out⟩
    · obtain rfl : k = n := by omega
      have hki : ¬ (k : Int) < (k : Int) := by omega
      have hall : Hid (decide ((0 : Int) ≤ -1) = !A) := hidI (by rw [hyes.out heq.out]; rfl)
      replace hk := hidI hk
      go_wp2
      go_ret
      exact ⟨-1, rfl, hall.out, hb.out⟩
theorem containsIn_any (w : World) (v : Value) (zss : List (List Int)) (r s : Int) (es : List Ed) (bx bm : Nat) (a0 : Option Addr) (n0 cap0 : Nat) (hco : isCo r s es = true) (hB : SubBx w bx bm r s a0 n0 cap0 es) (h : ReadSS w.heap.size w v zss) (hin : ∀ zs ∈ zss, InR zs) (hlz : ∀ i, i < zss.length → (zss.getD i []).length ≤ 10000000) :
    Calls Tryz.prog 34 #[v, .func (.func 35) #[] #[.pointer (some ⟨bx, 0, none⟩)]] w (LwBool w (!(zss.all (inSu r s es)))) := by
  have hcall := indexIn_any w v zss r s es bx bm a0 n0 cap0 hco hB h hin hlz
  obtain ⟨q, hq⟩ : ∃ q, q = !(zss.all (inSu r s es)) := ⟨_, rfl⟩
  rw [← hq] at hcall ⊢
  replace hq := hidI hq
  replace h := hidI h
  replace hB := hidI hB
  replace hin := hidI hin
  replace hlz := hidI hlz
  go_enter Tryz.func34, Tryz.ntmps34
  go_wp2_with fail
  refine hcall.mono ?_
  rintro e w1 ⟨z, rfl, hz, hb⟩
  clear hcall
  go_wp2
  go_ret
  exact ⟨ret_bool rfl, hb⟩
set_option maxRecDepth 100000 in
set_option maxHeartbeats 3200000 in
theorem progContAll0 (w : World) (r s : Int) (v : Value) (es : List Ed) (vz : Value) (zss : List (List Int)) (h : ReadE w.heap.size w v es) (hz : ReadSS w.heap.size w vz zss) (hin : ∀ zs ∈ zss, InR zs) (hl : es.length ≤ 10000000) (hlz : ∀ i, i < zss.length → (zss.getD i []).length ≤ 10000000) :
    Calls Tryz.prog 17 #[.agg #[.int .i64 r, .int .i64 s, v], vz] w (LwBool w (inAll r s es zss)) := by
  obtain ⟨a, cap, rfl, hnc⟩ := h.form
  have hz' := hz
  obtain ⟨hlen, az, capz, rfl, _, _⟩ := hz'
  obtain ⟨n, hn⟩ : ∃ n, n = es.length := ⟨_, rfl⟩
  rw [← hn] at hl hnc ⊢
  rw [← hn] at h
  obtain ⟨m, hm⟩ : ∃ m, m = zss.length := ⟨_, rfl⟩
  rw [← hm] at hlen ⊢
  rw [← hm] at hz
  obtain ⟨w1, hw1⟩ : ∃ w1, w1 = w.alloc (.cells #[.int .i64 r, .int .i64 s, .slice a n cap] 26) := ⟨_, rfl⟩
  have hb1 : Below w.heap.size w w1 := by rw [hw1]; exact (Below.refl _ _).alloc (Nat.le_refl _) _
  have hs1 : w.heap.size < w1.heap.size := by rw [hw1]; simp
  obtain ⟨g0, g1, g2⟩ := box3 hw1
  have hsub := progSubIn w1 r s (.slice a n cap) es (by have := (h.below hb1).mono hb1.size; exact this) (by omega)
  have hcon := fun (W : World) (hW : Below w.heap.size w W) (bx bm : Nat) (hco : isCo r s es = true) (hB : SubBx W bx bm r s a n cap es) => containsIn_any W (.slice az m capz) zss r s es bx bm a n cap hco hB ((hz.below hW).mono hW.size) hin hlz
  obtain ⟨F, hF⟩ : ∃ F, F = inAll r s es zss := ⟨_, rfl⟩
  obtain ⟨A, hA⟩ : ∃ A, A = zss.all (inSu r s es) := ⟨_, rfl⟩
  have hFe : F = (A && isCo r s es) := by rw [hF, hA]; rfl
  rw [← hF]
  rw [← hA] at hcon
  replace hFe := hidI hFe
  replace hF := hidI hF
  replace hA := hidI hA
  replace hn := hidI hn
  replace hm := hidI hm
  replace h := hidI h
  replace hz := hidI hz
  replace hin := hidI hin
  replace hlz := hidI hlz
  replace hcon := hidI hcon
  go_enter Tryz.func17, Tryz.ntmps17
  go_upto_region 1 with fail
  rw [← hw1]
  replace hw1 := hidI hw1
  go_wp2_with fail
  refine hsub.mono ?_
  rintro e w2 (⟨hco, bm, rfl, hlb, hlb2, hmap, hb2⟩ | ⟨hco, rfl, hb2⟩)
  case inr =>
    clear hsub g0 g1 g2
    have hfin : Hid (F = false) := hidI (by rw [hFe.out, hco, Bool.and_false])
    have hb12 := hb1.trans (hb2.mono hb1.size)
    obtain ⟨w3, hw3⟩ : ∃ z, z = w2.alloc (.cells #[.int .i64 0, .int .i64 0, .slice none 0 0, .map none] 54) := ⟨_, rfl⟩
    have hb3 : Below w2.heap.size w2 w3 := by rw [hw3]; exact (Below.refl _ _).alloc (Nat.le_refl _) _
    have hbz := hidI (hb12.trans (hb3.mono hb12.size))
    replace hco := hidI hco
    clear hb3
    go_upto_region 2 with fail
    rw [← hw3]
    replace hw3 := hidI hw3
    go_wp2
    go_ret
    exact ⟨ret_bool hfin.out.symm, hbz.out⟩
  clear hsub g0 g1 g2
  have hb12 := hb1.trans (hb2.mono hb1.size)
  have hs2 := hb2.size
  obtain ⟨w3, hw3⟩ : ∃ z, z = w2.alloc (.cells #[.int .i64 r, .int .i64 s, .slice a n cap, .map (some bm)] 54) := ⟨_, rfl⟩
  have hb3 : Below w2.heap.size w2 w3 := by rw [hw3]; exact (Below.refl _ _).alloc (Nat.le_refl _) _
  have hs3 : w2.heap.size < w3.heap.size := by rw [hw3]; simp
  obtain ⟨x0, x1, x2, x3⟩ := box4 hw3
  have hb13 := hb12.trans (hb3.mono hb12.size)
  have hBx : SubBx w3 w2.heap.size bm r s a n cap es := ⟨x0, x1, x2, x3, hmap.below hb3 hlb2, hs3, by omega⟩
  have hcl := hcon.out w3 hb13 _ bm hco hBx
  have hFe2 : Hid (F = A) := hidI (by rw [hFe.out, hco, Bool.and_true])
  replace hco := hidI hco
  replace hmap := hidI hmap
  replace hBx := hidI hBx
  clear hb2 hb3 hFe
  go_upto_region 2 with fail
  rw [← hw3]
  replace hw3 := hidI hw3
  go_wp2_with fail
  refine hcl.mono ?_
  rintro e w4 ⟨rfl, hb4⟩
  clear hcl
  have hbz := hidI (hb13.trans (hb4.mono hb13.size))
  go_wp2
  go_ret
  exact ⟨ret_bool (by rw [hFe2.out]), hbz.out⟩
theorem progContAll (w : World) (r s : Int) (v : Value) (es : List Ed) (vz : Value) (zss : List (List Int)) (h : ReadE w.heap.size w v es) (hz : ReadSS w.heap.size w vz zss) (hin : ∀ zs ∈ zss, InR zs) (hl : es.length ≤ 10000000) (hlz : sumN (zss.map List.length) ≤ 10000000) :
    Calls Tryz.prog 17 #[.agg #[.int .i64 r, .int .i64 s, v], vz] w (LwBool w (inAll r s es zss)) :=
  progContAll0 w r s v es vz zss h hz hin hl (fun i hi => by
    have h1 := sumN_getD (zss.map List.length) i (by rw [List.length_map]; omega)
    rw [getD_map_len] at h1

    omega)
end Go.Proofs.YtjnhhhnehkmfmaaGreat
