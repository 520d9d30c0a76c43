import Derived.Deep.LoopGhost
import Derived.Deep.Cut
import Derived.Test.YtgnomlcjikfdhaaGreatJ44Me
import Derived.Test.YtgnomlcjikfdhaaGreatJ36Me
import Derived.Test.YtgnomlcjikfdhaaGreatJ27Me
import Derived.Test.YtgnomlcjikfdhaaGreatJ45Me
import Derived.Test.YtgnomlcjikfdhaaGreatJ11Me
namespace Go.Proofs.YtgnomlcjikfdhaaGreat
open Go.RowKit Go.Maps
set_option linter.unusedVariables false
set_option linter.unusedSimpArgs false
theorem MW {w : World} {g : Nat} {T : TypeId} {x0 x1 x2 x3 : Value} (h : w.heap[g]? = some (.cells #[x0, x1, x2, x3] T (0, 0))) (v0 v1 v2 v3 : Value) :
 ((((w.setCell ⟨g, 0, none⟩ v0).setCell ⟨g, 1, none⟩ v1).setCell ⟨g, 2, none⟩ v2).setCell ⟨g, 3, none⟩ v3).heap[g]? = some (.cells #[v0, v1, v2, v3] T (0, 0)) := by
 have h3 := heap_setCell_same _ g 3 _ T v3 (heap_setCell_same _ g 2 _ T v2 (heap_setCell_same _ g 1 _ T v1 (heap_setCell_same w g 0 _ T v0 h))); simpa using h3
theorem wP {B b : Nat} {w w' : World} {x0 x1 x2 x3 : Value} (h : Below B w w') (hb : B ≤ b) : Below B w ((((w'.setCell ⟨b, 0, none⟩ x0).setCell ⟨b, 1, none⟩ x1).setCell ⟨b, 2, none⟩ x2).setCell ⟨b, 3, none⟩ x3) :=
 (aN h hb).setCell (p := ⟨b, 3, none⟩) hb x3
theorem FI {b : Nat} {w : World} {x0 x1 x2 x3 : Value} : ((((w.setCell ⟨b, 0, none⟩ x0).setCell ⟨b, 1, none⟩ x1).setCell ⟨b, 2, none⟩ x2).setCell ⟨b, 3, none⟩ x3).heap.size = w.heap.size := by simp [World.setCell]
theorem Nj {w w1 : World} {x0 x1 x2 x3 : Value} {T : TypeId} (hw1 : w1 = w.alloc (.cells #[x0, x1, x2, x3] T)) : w1.cell? ⟨w.heap.size, 0, none⟩ = some x0 ∧ w1.cell? ⟨w.heap.size, 1, none⟩ = some x1 ∧ w1.cell? ⟨w.heap.size, 2, none⟩ = some x2 ∧ w1.cell? ⟨w.heap.size, 3, none⟩ = some x3 := by
 have h := heap_alloc_new w (.cells #[x0, x1, x2, x3] T); rw [← hw1] at h; exact ⟨by simpa using cell_of_heap h 0, by simpa using cell_of_heap h 1, by simpa using cell_of_heap h 2, by simpa using cell_of_heap h 3⟩
theorem Dz : (Tryz.prog.info? 85).map (·.size) = some 4 := by kernel_rfl
def Et (w : World) (r s : Int) (v : Value) (es : List Ed) (e : Ending) (w' : World) : Prop :=
 (dL r s es = true ∧ ∃ b, e = .returned (.tuple #[.agg #[.int .i64 r, .int .i64 s, v, .map (some b)], .bool true]) ∧ w.heap.size ≤ b ∧ b < w'.heap.size ∧ kU w' b (2 * es.length) (eX es es.length) ∧ Below w.heap.size w w') ∨
 (dL r s es = false ∧ e = .returned (.tuple #[.agg #[.int .i64 0, .int .i64 0, .slice none 0 0, .map none], .bool false]) ∧ Below w.heap.size w w')
theorem kU.other {w w' : World} {b n : Nat} {D : DataW Unit} (h : kU w b n D) (hb : w'.heap[b]? = w.heap[b]?) : kU w' b n D := by
 obtain ⟨es, clock, hb', F, hs, hD⟩ := h; exact ⟨es, clock, hb.trans hb', F, hs, hD⟩
set_option maxRecDepth 100000 in
set_option maxHeartbeats 3200000 in
theorem F5 (w : World) (r s : Int) (v : Value) (es : List Ed) (h : ay w.heap.size w v es) (hl : es.length ≤ 10000000) :
 Calls Tryz.prog 74 #[.agg #[.int .i64 r, .int .i64 s, v]] w (Et w r s v es) := by
 obtain ⟨a, cap, rfl, hnc⟩ := h.form; obtain ⟨n, hn⟩ := ag es.length; rw [← hn] at hl hnc ⊢; rw [← hn] at h; obtain ⟨w1, hw1⟩ := ag ((w.alloc (.cells #[.int .i64 r, .int .i64 s, .slice a n cap] 26)).alloc (.cells #[.int .i64 0, .int .i64 0, .slice none 0 0, .map none] 85)); have hb1 : Below w.heap.size w w1 := by rw [hw1]; exact ((Below.refl _ _).alloc (nl _) _).alloc (by simp) _
 have hs1 : w1.heap.size = w.heap.size + 1 + 1 := by rw [hw1]; simp
 have hg := dH w (.cells #[.int .i64 r, .int .i64 s, .slice a n cap] 26) (.cells #[.int .i64 0, .int .i64 0, .slice none 0 0, .map none] 85); have hk := heap_alloc_new (w.alloc (.cells #[.int .i64 r, .int .i64 s, .slice a n cap] 26)) (.cells #[.int .i64 0, .int .i64 0, .slice none 0 0, .map none] 85); rw [← hw1] at hg hk; rw [show (w.alloc (.cells #[.int .i64 r, .int .i64 s, .slice a n cap] 26)).heap.size = w.heap.size + 1 by simp] at hk
 have g0 : w1.cell? ⟨w.heap.size, 0, none⟩ = some (.int .i64 r) := by simpa using cell_of_heap hg 0
 have g1 : w1.cell? ⟨w.heap.size, 1, none⟩ = some (.int .i64 s) := by simpa using cell_of_heap hg 1
 have g2 : w1.cell? ⟨w.heap.size, 2, none⟩ = some (.slice a n cap) := by simpa using cell_of_heap hg 2
 have hsub := yX w1 r s (.slice a n cap) es (by have := (h.below hb1).mono hb1.size; exact this) (by omega)
 have hst := fun (W : World) (hW : Below w.heap.size w W) => rG W r s (.slice a n cap) es ((h.below hW).mono hW.size) (by omega)
 have hcf : dL r s es = true → bJ r s es = true := fun q => (jW q).1
 obtain ⟨B, hB⟩ := ag (dL r s es); obtain ⟨Fo, hFo⟩ := ag (bJ r s es); rw [← hB] at hsub; rw [← hB, ← hFo] at hcf; have hsw : w.heap.size < w1.heap.size := by omega
 replace hB := ae hB; replace hFo := ae hFo; replace hcf := ae hcf; replace hst := ae hst; replace hn := ae hn; replace h := ae h; replace hg := ae hg; replace hk := ae hk; replace hs1 := ae hs1; go_enter Tryz.func74, Tryz.ntmps74
 go_upto_region 1 with fail
 rw [← hw1]; replace hw1 := ae hw1; go_wp2_with fail; refine hsub.mono ?_; rintro e w2 ⟨rfl, hb2⟩; clear hsub; have hs2 := hb2.size; replace g0 := af g0 hb2 hsw; replace g1 := af g1 hb2 hsw; replace g2 := af g2 hb2 hsw; have hbw2 := ae (hb1.trans (hb2.mono hb1.size)); have hR2 : w2.heap[w.heap.size + 1]? = some (.cells #[.int .i64 0, .int .i64 0, .slice none 0 0, .map none] 85 (0, 0)) := by rw [hb2.block _ (by have := hs1.out; omega)]; exact hk.out
 cases B with
 | false =>
  obtain ⟨y0, y1, y2⟩ := ah hR2; have y3 := cell_of_heap hR2 3; have f2 := fun j => frozen_of_row w2 (w.heap.size + 1) j _ _ hR2
  simp at y0 y1 y2 y3
  have hfin : Et w r s (.slice a n cap) es (.returned (.tuple #[.agg #[.int .i64 0, .int .i64 0, .slice none 0 0, .map none], .bool false])) ((((w2.setCell ⟨w.heap.size + 1, 0, none⟩ (.int .i64 0)).setCell ⟨w.heap.size + 1, 1, none⟩ (.int .i64 0)).setCell ⟨w.heap.size + 1, 2, none⟩ (.slice none 0 0)).setCell ⟨w.heap.size + 1, 3, none⟩ (.map none)) :=
   .inr ⟨hB.out.symm, rfl, wP hbw2.out (by omega)⟩
  replace hfin := ae hfin; replace hR2 := ae hR2; replace hB := ae hB; clear hb2; go_wp2
  (try simp only [Exit.inBlock, Exit.then])
  refine aO (x := .bool false) rfl rfl rfl (MW hR2.out _ _ _ _) Tryz.underlying85 Dz ?_; exact hfin.out
 | true =>
  have hFt := hcf.out rfl; have hcs := hst.out w2 hbw2.out; replace hR2 := ae hR2; clear hb2; go_wp2_with fail; refine hcs.mono ?_; rintro e w3 (⟨hf, bm, rfl, hlb, hlb2, hmap, hb3⟩ | ⟨hf, rfl, hb3⟩)
  case inr => rw [hFo.out, hf] at hFt; cases hFt
  clear hcs; have hs3 := hb3.size; have hws : w.heap.size < w2.heap.size := by omega
  replace g0 := af g0 hb3 hws; replace g1 := af g1 hb3 hws; replace g2 := af g2 hb3 hws; have hR3 : w3.heap[w.heap.size + 1]? = some (.cells #[.int .i64 0, .int .i64 0, .slice none 0 0, .map none] 85 (0, 0)) := by rw [hb3.block _ (by have := hs1.out; omega)]; exact hR2.out
  obtain ⟨y0, y1, y2⟩ := ah hR3; have y3 := cell_of_heap hR3 3; have f2 := fun j => frozen_of_row w3 (w.heap.size + 1) j _ _ hR3
  simp at y0 y1 y2 y3
  have hbm : bm ≠ w.heap.size + 1 := by have := hs1.out; omega
  have hfin : Et w r s (.slice a n cap) es (.returned (.tuple #[.agg #[.int .i64 r, .int .i64 s, .slice a n cap, .map (some bm)], .bool true])) ((((w3.setCell ⟨w.heap.size + 1, 0, none⟩ (.int .i64 r)).setCell ⟨w.heap.size + 1, 1, none⟩ (.int .i64 s)).setCell ⟨w.heap.size + 1, 2, none⟩ (.slice a n cap)).setCell ⟨w.heap.size + 1, 3, none⟩ (.map (some bm))) :=
   .inl ⟨hB.out.symm, bm, rfl, by omega, by rw [FI]; exact hlb2, hmap.other (by rw [Below.heap_setCell _ _ _ _ hbm, Below.heap_setCell _ _ _ _ hbm, Below.heap_setCell _ _ _ _ hbm, Below.heap_setCell _ _ _ _ hbm]), wP (hbw2.out.trans (hb3.mono hbw2.out.size)) (by omega)⟩
  replace hfin := ae hfin; replace hR3 := ae hR3; replace hB := ae hB; replace hf := ae hf; replace hFt := ae hFt; replace hmap := ae hmap; replace hbm := ae hbm; clear hb3; go_wp2
  (try simp only [Exit.inBlock, Exit.then])
  refine aO (x := .bool true) rfl rfl rfl (MW hR3.out _ _ _ _) Tryz.underlying85 Dz ?_; exact hfin.out
theorem LD {r s : Int} {es : List Ed} (h : dL r s es = true) (zs : List Int) : dF r s es zs = (decide ((wk es 0 (bK zs)).2 = (bK zs).length) && decide ((wk es 0 (bK zs)).1 = 0)) := by
 have hl := qE h; have hok : kD r s es 0 = true := by
  unfold kD oI; rw [(jW h).1, Bool.true_and, decide_eq_true_eq]; omega
 have hw : gI r s es 0 (bK zs) = decide ((wk es 0 (bK zs)).2 = (bK zs).length) := by unfold gI; rw [hok, Bool.true_and]
 unfold dF; rw [h, Bool.true_and]; by_cases q : gI r s es 0 (bK zs) = true
 · have hv : jS r s es 0 (bK zs) = (wk es 0 (bK zs)).1 := by unfold jS; rw [if_pos q]
   rw [hv, hw]
 · have q' : gI r s es 0 (bK zs) = false := by simpa using q
   rw [q', Bool.false_and, ← hw, q', Bool.false_and]
set_option maxRecDepth 100000 in
set_option maxHeartbeats 3200000 in
theorem AA (w : World) (r s : Int) (v : Value) (es : List Ed) (bm : Nat) (vz : Value) (zs : List Int) (hv : ∃ a n c, v = Value.slice a n c) (hco : dL r s es = true) (hmp : kU w bm (2 * es.length) (eX es es.length)) (hlt : bm < w.heap.size) (hz : bD w.heap.size w vz zs) (hin : bi zs) (hlz : zs.length ≤ 10000000) :
 Calls Tryz.prog 77 #[.agg #[.int .i64 r, .int .i64 s, v, .map (some bm)], vz] w (dU w (dF r s es zs)) := by
 rw [LD hco]; obtain ⟨a, n, cap, rfl⟩ := hv; have hz' := hz; obtain ⟨_, az, capz, rfl, _, _⟩ := hz'; have hcp := jW hco; have hgf := jb hcp.1; have hlim := aZ hgf.1; obtain ⟨w1, hw1⟩ := ag (w.alloc (.cells #[.int .i64 r, .int .i64 s, .slice a n cap, .map (some bm)] 85)); have hb1 : Below w.heap.size w w1 := by rw [hw1]; exact (Below.refl _ _).alloc (nl _) _
 have hs1 : w.heap.size < w1.heap.size := by rw [hw1]; simp
 obtain ⟨g0, g1, g2, g3⟩ := Nj hw1; have hred := Ez w1 (.slice az zs.length capz) zs ((hz.below hb1).mono hb1.size) hin (by omega)
 have hin2 := iQ hin; have hrl := jf zs; obtain ⟨RL, hRL⟩ := ag (bK zs); rw [← hRL] at hred hin2 hrl ⊢; obtain ⟨WV, hWV⟩ := ag ((wk es 0 RL).1); obtain ⟨WN, hWN⟩ := ag ((wk es 0 RL).2); obtain ⟨L, hL⟩ := ag RL.length; have hal := fun (W : World) (hW : Below w.heap.size w W) (u : Value) (hu : bD W.heap.size W u RL) => zJ W r s es bm 0 u RL (hmp.below hW hlt) (by have := hW.size; omega) hgf.1 hgf.2 (by omega) hu hin2 (by omega)
 rw [← hWV, ← hWN] at hal ⊢; rw [← hL] at hrl ⊢; obtain ⟨F, hF⟩ := ag ((decide (WN = L) && decide (WV = 0))); rw [← hF]; replace hal := ae hal; replace hRL := ae hRL; replace hWV := ae hWV; replace hWN := ae hWN; replace hL := ae hL; replace hF := ae hF; replace hcp := ae hcp; replace hgf := ae hgf; replace hco := ae hco; replace hmp := ae hmp; replace hz := ae hz; replace hin := ae hin; replace hin2 := ae hin2
 go_enter Tryz.func77, Tryz.ntmps77
 go_upto_region 1 with fail
 rw [← hw1]; replace hw1 := ae hw1; go_wp2_with fail; refine hred.mono ?_; rintro e w2 ⟨v1, rfl, hr1, hb2⟩; clear hred; replace g3 := af g3 hb2 hs1; clear g0 g1 g2; have hb12 := ae (hb1.trans (hb2.mono hb1.size)); have hrd := hr1.read; obtain ⟨_, a1, c1, hv1, _, _⟩ := hr1.read; rw [← hL.out] at hv1; subst hv1; have hcl := hal.out w2 hb12.out _ hrd; replace hrd := ae hrd; replace hr1 := ae hr1; go_wp2_with fail
 refine hcl.mono ?_; rintro e w3 ⟨rfl, rfl⟩; clear hcl; by_cases e1 : WN = L
 · have t1 : ((WN : Int) == (L : Int)) = true := by rw [beq_iff_eq]; omega
   by_cases e2 : WV = 0
   · have t2 : (WV == 0) = true := by rw [beq_iff_eq]; exact e2
     have hfin : Hid (F = true) := ae (by rw [hF.out, decide_eq_true e1, decide_eq_true e2]; rfl)
     replace e1 := ae e1; replace e2 := ae e2; go_wp2; go_ret; exact ⟨au hfin.out.symm, hb12.out⟩
   · have t2 : (WV == 0) = false := by rw [beq_eq_false_iff_ne]; exact e2
     have hfin : Hid (F = false) := ae (by rw [hF.out, decide_eq_true e1, decide_eq_false e2]; rfl)
     replace e1 := ae e1; replace e2 := ae e2; go_wp2; go_ret; exact ⟨au hfin.out.symm, hb12.out⟩
 · have t1 : ((WN : Int) == (L : Int)) = false := by rw [beq_eq_false_iff_ne]; omega
   have hfin : Hid (F = false) := ae (by rw [hF.out, decide_eq_false e1]; rfl)
   replace e1 := ae e1; go_wp2; go_ret; exact ⟨au hfin.out.symm, hb12.out⟩
structure qf (w : World) (bx bm : Nat) (r s : Int) (a : Option Addr) (n cap : Nat) (es : List Ed) : Prop where
 c0 : w.cell? ⟨bx, 0, none⟩ = some (.int .i64 r)
 c1 : w.cell? ⟨bx, 1, none⟩ = some (.int .i64 s)
 c2 : w.cell? ⟨bx, 2, none⟩ = some (.slice a n cap)
 c3 : w.cell? ⟨bx, 3, none⟩ = some (.map (some bm))
 map : kU w bm (2 * es.length) (eX es es.length)
 lx : bx < w.heap.size
 lm : bm < w.heap.size
theorem qf.below {w w' : World} {bx bm : Nat} {r s : Int} {a : Option Addr} {n cap : Nat} {es : List Ed} (h : qf w bx bm r s a n cap es) (hb : Below w.heap.size w w') : qf w' bx bm r s a n cap es :=
 ⟨af h.c0 hb h.lx, af h.c1 hb h.lx, af h.c2 hb h.lx, af h.c3 hb h.lx, h.map.below hb h.lm, Nat.lt_of_lt_of_le h.lx hb.size, Nat.lt_of_lt_of_le h.lm hb.size⟩
theorem HY (w : World) (u : Value) (zs : List Int) (r s : Int) (es : List Ed) (bx bm : Nat) (a : Option Addr) (n cap : Nat) (hco : dL r s es = true) (hB : qf w bx bm r s a n cap es) (hz : bD w.heap.size w u zs) (hin : bi zs) (hlz : zs.length ≤ 10000000) :
 Calls Tryz.prog 76 #[u, .pointer (some ⟨bx, 0, none⟩)] w (dU w (!(dF r s es zs))) := by
 have hcall := AA w r s (.slice a n cap) es bm u zs ⟨_, _, _, rfl⟩ hco hB.map hB.lm hz hin hlz; obtain ⟨q, hq⟩ := ag (dF r s es zs); rw [← hq] at hcall ⊢; have p0 := hB.c0; have p1 := hB.c1; have p2 := hB.c2; have p3 := hB.c3; replace hq := ae hq; replace hz := ae hz; replace hB := ae hB; replace hco := ae hco; replace hin := ae hin; go_enter Tryz.func76, Tryz.ntmps76
 go_wp2_with fail; refine hcall.mono ?_; rintro e w1 ⟨rfl, hb⟩; clear hcall; go_wp2; go_ret; exact ⟨rfl, hb⟩
def NG (w : World) (q : Bool) (e : Ending) (w' : World) : Prop := ∃ z : Int, e = .returned (.int .i64 z) ∧ decide (0 ≤ z) = q ∧ Below w.heap.size w w'
set_option maxHeartbeats 3200000 in
theorem CW (w : World) (v : Value) (zss : List (List Int)) (r s : Int) (es : List Ed) (bx bm : Nat) (a0 : Option Addr) (n0 cap0 : Nat) (hco : dL r s es = true) (hB : qf w bx bm r s a0 n0 cap0 es) (h : dJ w.heap.size w v zss) (hin : ∀ zs ∈ zss, bi zs) (hlz : ∀ i, i < zss.length → (zss.getD i []).length ≤ 10000000) :
 Calls Tryz.prog 112 #[v, .func (.func 76) #[] #[.pointer (some ⟨bx, 0, none⟩)]] w
  (NG w (!(zss.all (dF r s es)))) := by
 have h' := h; obtain ⟨hl, a, cap, rfl, _, _⟩ := h'; obtain ⟨n, hn⟩ := ag zss.length; rw [← hn] at hl h; obtain ⟨A, hA⟩ := ag (zss.all (dF r s es)); rw [← hA]; have hno : ∀ k, k < n → dF r s es (zss.getD k []) = false → A = false := fun k hk q => by
  have h1 := Bj (by omega : k < zss.length) q
  unfold jQ at h1; rw [hco, Bool.and_true] at h1; rw [hA, h1]
 have hyes : (∀ j, j < n → dF r s es (zss.getD j []) = true) → A = true := fun q => by
  have h1 := zo (r := r) (s := s) (es := es) (zss := zss) (fun j hj => q j (by omega))
  unfold jQ at h1; rw [hco, Bool.and_true] at h1; rw [hA, h1]
 replace hn := ae hn; replace h := ae h; replace hA := ae hA; replace hno := ae hno; replace hyes := ae hyes; replace hin := ae hin; replace hlz := ae hlz; replace hB := ae hB; replace hco := ae hco; go_enter Tryz.func112, Tryz.ntmps112
 rw [← hn.out]; go_wp2
 go_loopg [5, 8] n (fun g x i wr => ∃ k : Nat, k + g = n ∧ i = .int .i64 k ∧ Hid (∀ j, j < k → dF r s es (zss.getD j []) = true) ∧ Hid (Below w.heap.size w wr))
 case atStart => exact ⟨0, by omega, rfl, ae (fun j h => by omega), ae (Below.refl _ _)⟩
 case round =>
  obtain ⟨k, hk, rfl, heq, hb⟩ := hrel; by_cases hlt : k < n
  · have hki : (k : Int) < (n : Int) := by omega
    obtain ⟨b, off, u, rfl, hbl, c, r0⟩ := h.out.at_ k (by have := hn.out; omega)
    have cw := af c hb.out hbl; have hcall := HY wr u (zss.getD k []) r s es bx bm a0 n0 cap0 hco.out (hB.out.below hb.out) ((r0.below hb.out).mono hb.out.size) (hin.out _ (by
     have hkl : k < zss.length := by have := hn.out; omega
     rw [gD, gE hkl]; exact List.getElem_mem hkl)) (hlz.out k (by have := hn.out; omega))
    obtain ⟨I, hI⟩ := ag (dF r s es (zss.getD k [])); rw [← hI] at hcall; replace hI := ae hI; replace hk := ae hk; clear c r0
    cases I with
    | true =>
     have hnx : Hid (∀ j, j < k + 1 → dF r s es (zss.getD j []) = true) := ae fun j hj => by
      by_cases e : j = k
      · subst e; exact hI.out.symm
      · exact heq.out j (by omega)
     replace hI := ae hI; go_wp2_with fail; refine hcall.mono ?_; rintro e w3 ⟨rfl, hb3⟩; clear hcall; have hb13 := ae (hb.out.trans (hb3.mono hb.out.size)); go_wp2; go_roundg (n - (k + 1))
     case rel => exact ⟨k + 1, by have := hk.out; omega, by go_num, hnx, hb13⟩
     case measure => have := hk.out; omega
    | false =>
     have hall : Hid (decide ((0 : Int) ≤ (k : Int)) = !A) := ae (by rw [hno.out k hlt hI.out.symm]; simp)
     replace hI := ae hI; go_wp2_with fail; refine hcall.mono ?_; rintro e w3 ⟨rfl, hb3⟩; clear hcall; have hb13 := ae (hb.out.trans (hb3.mono hb.out.size)); go_wp2; go_ret; exact ⟨k, rfl, hall.out, hb13.out⟩
  · obtain rfl : k = n := by omega
    have hki : ¬ (k : Int) < (k : Int) := by omega
    have hall : Hid (decide ((0 : Int) ≤ -1) = !A) := ae (by rw [hyes.out heq.out]; rfl)
    replace hk := ae hk; go_wp2; go_ret; exact ⟨-1, rfl, hall.out, hb.out⟩
theorem yB (w : World) (v : Value) (zss : List (List Int)) (r s : Int) (es : List Ed) (bx bm : Nat) (a0 : Option Addr) (n0 cap0 : Nat) (hco : dL r s es = true) (hB : qf w bx bm r s a0 n0 cap0 es) (h : dJ w.heap.size w v zss) (hin : ∀ zs ∈ zss, bi zs) (hlz : ∀ i, i < zss.length → (zss.getD i []).length ≤ 10000000) :
 Calls Tryz.prog 75 #[v, .func (.func 76) #[] #[.pointer (some ⟨bx, 0, none⟩)]] w (dU w (!(zss.all (dF r s es)))) := by
 have hcall := CW w v zss r s es bx bm a0 n0 cap0 hco hB h hin hlz; obtain ⟨q, hq⟩ := ag (!(zss.all (dF r s es))); rw [← hq] at hcall ⊢; replace hq := ae hq; replace h := ae h; replace hB := ae hB; replace hin := ae hin; replace hlz := ae hlz; go_enter Tryz.func75, Tryz.ntmps75
 go_wp2_with fail; refine hcall.mono ?_; rintro e w1 ⟨z, rfl, hz, hb⟩; clear hcall; go_wp2; go_ret; exact ⟨au rfl, hb⟩
set_option maxRecDepth 100000 in
set_option maxHeartbeats 3200000 in
theorem ut (w : World) (r s : Int) (v : Value) (es : List Ed) (vz : Value) (zss : List (List Int)) (h : ay w.heap.size w v es) (hz : dJ w.heap.size w vz zss) (hin : ∀ zs ∈ zss, bi zs) (hl : es.length ≤ 10000000) (hlz : ∀ i, i < zss.length → (zss.getD i []).length ≤ 10000000) :
 Calls Tryz.prog 38 #[.agg #[.int .i64 r, .int .i64 s, v], vz] w (dU w (jQ r s es zss)) := by
 obtain ⟨a, cap, rfl, hnc⟩ := h.form; have hz' := hz; obtain ⟨hlen, az, capz, rfl, _, _⟩ := hz'; obtain ⟨n, hn⟩ := ag es.length; rw [← hn] at hl hnc ⊢; rw [← hn] at h; obtain ⟨m, hm⟩ := ag zss.length; rw [← hm] at hlen ⊢; rw [← hm] at hz; obtain ⟨w1, hw1⟩ := ag (w.alloc (.cells #[.int .i64 r, .int .i64 s, .slice a n cap] 26)); have hb1 : Below w.heap.size w w1 := by rw [hw1]; exact (Below.refl _ _).alloc (nl _) _
 have hs1 : w.heap.size < w1.heap.size := by rw [hw1]; simp
 obtain ⟨g0, g1, g2⟩ := bT hw1; have hsub := F5 w1 r s (.slice a n cap) es (by have := (h.below hb1).mono hb1.size; exact this) (by omega)
 have hcon := fun (W : World) (hW : Below w.heap.size w W) (bx bm : Nat) (hco : dL r s es = true) (hB : qf W bx bm r s a n cap es) => yB W (.slice az m capz) zss r s es bx bm a n cap hco hB ((hz.below hW).mono hW.size) hin hlz
 obtain ⟨F, hF⟩ := ag (jQ r s es zss); obtain ⟨A, hA⟩ := ag (zss.all (dF r s es)); have hFe : F = (A && dL r s es) := by rw [hF, hA]; rfl
 rw [← hF]; rw [← hA] at hcon; replace hFe := ae hFe; replace hF := ae hF; replace hA := ae hA; replace hn := ae hn; replace hm := ae hm; replace h := ae h; replace hz := ae hz; replace hin := ae hin; replace hlz := ae hlz; replace hcon := ae hcon; go_enter Tryz.func38, Tryz.ntmps38
 go_upto_region 1 with fail
 rw [← hw1]; replace hw1 := ae hw1; go_wp2_with fail; refine hsub.mono ?_; rintro e w2 (⟨hco, bm, rfl, hlb, hlb2, hmap, hb2⟩ | ⟨hco, rfl, hb2⟩)
 case inr =>
  clear hsub g0 g1 g2; have hfin : Hid (F = false) := ae (by rw [hFe.out, hco, Bool.and_false])
  have hb12 := hb1.trans (hb2.mono hb1.size); obtain ⟨w3, hw3⟩ := ag (w2.alloc (.cells #[.int .i64 0, .int .i64 0, .slice none 0 0, .map none] 85)); have hb3 : Below w2.heap.size w2 w3 := by rw [hw3]; exact (Below.refl _ _).alloc (nl _) _
  have hbz := ae (hb12.trans (hb3.mono hb12.size)); replace hco := ae hco; clear hb3; go_upto_region 2 with fail
  rw [← hw3]; replace hw3 := ae hw3; go_wp2; go_ret; exact ⟨au hfin.out.symm, hbz.out⟩
 clear hsub g0 g1 g2; have hb12 := hb1.trans (hb2.mono hb1.size); have hs2 := hb2.size; obtain ⟨w3, hw3⟩ := ag (w2.alloc (.cells #[.int .i64 r, .int .i64 s, .slice a n cap, .map (some bm)] 85)); have hb3 : Below w2.heap.size w2 w3 := by rw [hw3]; exact (Below.refl _ _).alloc (nl _) _
 have hs3 : w2.heap.size < w3.heap.size := by rw [hw3]; simp
 obtain ⟨x0, x1, x2, x3⟩ := Nj hw3; have hb13 := hb12.trans (hb3.mono hb12.size); have hBx : qf w3 w2.heap.size bm r s a n cap es := ⟨x0, x1, x2, x3, hmap.below hb3 hlb2, hs3, by omega⟩
 have hcl := hcon.out w3 hb13 _ bm hco hBx; have hFe2 : Hid (F = A) := ae (by rw [hFe.out, hco, Bool.and_true])
 replace hco := ae hco; replace hmap := ae hmap; replace hBx := ae hBx; clear hb2 hb3 hFe; go_upto_region 2 with fail
 rw [← hw3]; replace hw3 := ae hw3; go_wp2_with fail; refine hcl.mono ?_; rintro e w4 ⟨rfl, hb4⟩; clear hcl; have hbz := ae (hb13.trans (hb4.mono hb13.size)); go_wp2; go_ret; exact ⟨au (by rw [hFe2.out]), hbz.out⟩
set_option maxRecDepth 100000 in
set_option maxHeartbeats 3200000 in
theorem rQ (w : World) (r s : Int) (v : Value) (es : List Ed) (vz : Value) (zs : List Int) (h : ay w.heap.size w v es) (hz : bD w.heap.size w vz zs) (hin : bi zs) (hl : es.length ≤ 10000000) (hlz : zs.length ≤ 10000000) :
 Calls Tryz.prog 23 #[.agg #[.int .i64 r, .int .i64 s, v], vz] w (dU w (dF r s es zs)) := by
 obtain ⟨a, cap, rfl, hnc⟩ := h.form; have hz' := hz; obtain ⟨_, az, capz, rfl, _, _⟩ := hz'; obtain ⟨n, hn⟩ := ag es.length; rw [← hn] at hl hnc ⊢; rw [← hn] at h; obtain ⟨m, hm⟩ := ag zs.length; rw [← hm] at hz ⊢; obtain ⟨w1, hw1⟩ := ag (w.alloc (.cells #[.int .i64 r, .int .i64 s, .slice a n cap] 26)); have hb1 : Below w.heap.size w w1 := by rw [hw1]; exact (Below.refl _ _).alloc (nl _) _
 have hs1 : w.heap.size < w1.heap.size := by rw [hw1]; simp
 obtain ⟨g0, g1, g2⟩ := bT hw1; obtain ⟨w2, hw2⟩ := ag (w1.alloc (.cells #[.slice az m capz] 33)); have hb2 : Below w1.heap.size w1 w2 := by rw [hw2]; exact (Below.refl _ _).alloc (nl _) _
 have hs2 : w1.heap.size < w2.heap.size := by rw [hw2]; simp
 have hk2 : w2.heap[w1.heap.size]? = some (.cells #[.slice az m capz] 33 (0, 0)) := by rw [hw2]; exact heap_alloc_new _ _
 have hb12 := hb1.trans (hb2.mono hb1.size); have hzz : dJ w2.heap.size w2 (.slice (some ⟨w1.heap.size, 0, none⟩) 1 1) [zs] := by
  refine ⟨by simp, some ⟨w1.heap.size, 0, none⟩, 1, rfl, ⟨fun e => (by cases e), nl _⟩, .inr ⟨w1.heap.size, 0, rfl, hs2, fun i hi => ?_⟩⟩
  obtain rfl : i = 0 := by simp at hi; omega
  exact ⟨.slice az m capz, by simpa using cell_of_heap hk2 0, (hz.below hb12).mono hb12.size⟩
 have hzl1 : ∀ i, i < [zs].length → ([zs].getD i []).length ≤ 10000000 := by
  intro i hi; obtain rfl : i = 0 := by simp at hi; omega
  exact hlz
 have hcall := ut w2 r s (.slice a n cap) es (.slice (some ⟨w1.heap.size, 0, none⟩) 1 1) [zs] ((h.below hb12).mono hb12.size) hzz (fun z hz => by simp at hz; subst hz; exact hin) (by omega) hzl1
 have hsame : jQ r s es [zs] = dF r s es zs := by
  unfold jQ dF
  cases dL r s es <;> simp
 rw [hsame] at hcall; obtain ⟨F, hF⟩ := ag (dF r s es zs); rw [← hF] at hcall ⊢; replace hsame := ae hsame; replace hF := ae hF; replace hn := ae hn; replace hm := ae hm; replace h := ae h; replace hz := ae hz; replace hin := ae hin; replace hzz := ae hzz; replace hk2 := ae hk2; go_enter Tryz.func23, Tryz.ntmps23
 go_upto_region 1 with fail
 rw [← hw1]; replace hw1 := ae hw1; go_wp2_with fail; rw [← hw2]; replace hw2 := ae hw2; refine hcall.mono ?_; rintro e w3 ⟨rfl, hb3⟩; clear hcall; have hbz := ae (hb12.trans (hb3.mono hb12.size)); clear hb2 hb3; go_wp2; go_ret; exact ⟨au rfl, hbz.out⟩
theorem vk (w : World) (r s : Int) (v : Value) (es : List Ed) (vz : Value) (zss : List (List Int)) (h : ay w.heap.size w v es) (hz : dJ w.heap.size w vz zss) (hin : ∀ zs ∈ zss, bi zs) (hl : es.length ≤ 10000000) (hlz : dP (zss.map List.length) ≤ 10000000) :
 Calls Tryz.prog 38 #[.agg #[.int .i64 r, .int .i64 s, v], vz] w (dU w (jQ r s es zss)) :=
 ut w r s v es vz zss h hz hin hl (fun i hi => by
  have h1 := pV (zss.map List.length) i (by rw [List.length_map]; omega)
  rw [kw] at h1; omega)
end Go.Proofs.YtgnomlcjikfdhaaGreat
