/- Folding on, the model: FoldInOrder (tools/hs6.py). -/
import Derived.Test.YtdeofaimgldklaaHX
import Derived.Test.YtdeofaimgldklaaHMS
import Derived.Test.YtdeofaimgldklaaJO
import Derived.Deep.LoopGhost
import Derived.Deep.Cut
namespace Go.Proofs.Ytdeofaimgldklaa
open Go.RowKit
set_option linter.unusedVariables false
set_option linter.unusedSimpArgs false

/-- The model's graph in its box X, its edges in a row, the folds in a row of the call's own. -/
def FoSt (w : World) (X base : Nat) (r sz : Int) (v : Value) (E : List Ed) (o : Value) (L : List tupF) : Prop :=
  w.heap[X]? = some (.cells #[.int .i64 r, .int .i64 sz, v] 32 (0, 0)) ∧ OwnsF w (X + 1) o L ∧
    ∃ lo hi, RowS 68 3 w lo hi v E.length (flatE E) ∧ base ≤ lo ∧ lo ≤ hi ∧ hi ≤ w.heap.size ∧ (hi ≤ X ∨ X < lo) ∧ ∀ b, o.ownBlock = some b → b < lo ∨ hi ≤ b
theorem FoSt.form {w : World} {X base : Nat} {r sz : Int} {v o : Value} {E : List Ed} {L : List tupF} (h : FoSt w X base r sz v E o L) : ∃ a c, v = .slice a E.length c := by
  obtain ⟨_, _, lo, hi, ⟨_, _, ⟨h1, h2⟩ | ⟨g, off, cap, cur, h1, _⟩⟩, _⟩ := h
  · exact ⟨none, 0, by rw [h1, h2]⟩
  · exact ⟨_, _, h1⟩
theorem FoSt.read {w : World} {X base : Nat} {r sz : Int} {v o : Value} {E : List Ed} {L : List tupF} (h : FoSt w X base r sz v E o L) : ReadE w.heap.size w v E := by
  obtain ⟨_, _, lo, hi, h2, _, _, h4, _⟩ := h
  exact h2.read.mono h4
theorem FoSt.below {w w' : World} {X base : Nat} {r sz : Int} {v o : Value} {E : List Ed} {L : List tupF} (h : FoSt w X base r sz v E o L) (hX : X < w.heap.size) (hb : Below w.heap.size w w') : FoSt w' X base r sz v E o L := by
  obtain ⟨h1, h0, lo, hi, h2, h3, h3', h4, h5, h6⟩ := h
  exact ⟨by rw [hb.block X hX]; exact h1, h0.later hb (Nat.le_refl _), lo, hi, h2.below hb h4, h3, h3', Nat.le_trans h4 hb.size, h5, h6⟩
theorem FoSt.drew {w : World} {X base : Nat} {r sz : Int} {v o : Value} {E : List Ed} {L : List tupF} (h : FoSt w X base r sz v E o L) : FoSt w.drew X base r sz v E o L := h
/-- A new graph is stored. -/
theorem FoSt.store {w w' : World} {X base : Nat} {r sz sz' : Int} {v v' o : Value} {E E' : List Ed} {L : List tupF} (h : FoSt w X base r sz v E o L) (hX : X < w.heap.size) (hb : Below w.heap.size w w') (hbase : base ≤ w.heap.size) (hr : RowS 68 3 w' w.heap.size w'.heap.size v' E'.length (flatE E')) :
    FoSt (((w'.setCell ⟨X, 0, none⟩ (.int .i64 r)).setCell ⟨X, 1, none⟩ (.int .i64 sz')).setCell ⟨X, 2, none⟩ v') X base r sz' v' E' o L := by
  obtain ⟨h1, h0, lo, hi, h2, h3, h3', h4, h5, h6⟩ := h
  have hlt := World.ownsRow.lt h0
  refine ⟨set3 ((hb.block X hX).trans h1) _ _ _, ?_, w.heap.size, w'.heap.size, hr.set3_ (.inl hX), hbase, hb.size, by rw [size_set3]; exact Nat.le_refl _, .inr hX, fun b hb' => .inl (hlt b hb').2⟩
  refine (h0.later hb (Nat.le_refl _)).other fun b hb' => heap_set3 ?_
  have := (hlt b hb').1
  omega
/-- A fold is put behind the others. -/
theorem FoSt.push {w w' : World} {O : Obj} {X base : Nat} {r sz : Int} {v o o' : Value} {E : List Ed} {L L' : List tupF} (h : FoSt w X base r sz v E o L) (hX : X < w.heap.size) (ho : OwnsF w' (X + 1) o' L') (hg : (w.alloc O).grownBy w' o.ownBlock) (hloc : o'.ownBlock = o.ownBlock ∨ o'.ownBlock = some (w.heap.size + 1)) :
    FoSt w' X base r sz v E o' L' := by
  obtain ⟨h1, h0, lo, hi, h2, h3, h3', h4, h5, h6⟩ := h
  have hlt := World.ownsRow.lt h0
  have hsz := hg.size
  simp at hsz
  refine ⟨?_, ho, lo, hi, h2.keep (fun q q1 q2 => ?_), h3, h3', by omega, h5, fun b hb => ?_⟩
  · rw [hg.block X (by simp; omega) (fun e => by have := (hlt X e.symm).1; omega), heap_alloc_old _ _ hX]; exact h1
  · rw [hg.block q (by simp; omega) (fun e => by have := h6 q e.symm; omega), heap_alloc_old _ _ (by omega)]
  · rcases hloc with e | e
    · exact h6 b (e ▸ hb)
    · have := Option.some.inj (e.symm.trans hb)
      right; omega
/-- The answer, behind the last stores. -/
theorem fo_fin {w w9 : World} {X R base cap : Nat} {r s' : Int} {E : List Ed} {L : List tupF} {a : Option Addr} {o : Value} (hR : w.heap.size ≤ R) (hRX : R < base) (hRX' : R ≤ X) (hbw : Below w.heap.size w w9) (h : FoSt w9 X base r s' (.slice a E.length cap) E o L) (hl : L.length ≤ 1000) :
    LwGraphFolds w r s' E L (.returned (.tuple #[.agg #[.int .i64 r, .int .i64 s', .slice a E.length cap], o])) (((w9.setCell ⟨R, 0, none⟩ (.int .i64 r)).setCell ⟨R, 1, none⟩ (.int .i64 s')).setCell ⟨R, 2, none⟩ (.slice a E.length cap)) := by
  obtain ⟨h1, h0, lo, hi, h2, h3, h3', h4, h5, h6⟩ := h
  have hrow := OwnsS.row h0 (by omega)
  have hrowg : RowS 68 3 (((w9.setCell ⟨R, 0, none⟩ (.int .i64 r)).setCell ⟨R, 1, none⟩ (.int .i64 s')).setCell ⟨R, 2, none⟩ (.slice a E.length cap)) lo hi (.slice a E.length cap) E.length (flatE E) := RowS.set3_ h2 (.inl (by omega))
  have hrowf : RowS 27 2 (((w9.setCell ⟨R, 0, none⟩ (.int .i64 r)).setCell ⟨R, 1, none⟩ (.int .i64 s')).setCell ⟨R, 2, none⟩ (.slice a E.length cap)) (X + 1) w9.heap.size o L.length (flatF L) := RowS.set3_ hrow (.inl (by omega))
  have hbe := below_set3 (x0 := .int .i64 r) (x1 := .int .i64 s') (x2 := .slice a E.length cap) hbw hR
  rcases h0.2 with ⟨rfl, h00⟩ | ⟨g, cap', cur, rfl, hg1, hg2, _⟩
  · exact ⟨a, cap, _, lo, hi, w.heap.size, w.heap.size, rfl, ⟨by omega, h3', by rw [size_set3]; exact h4, Nat.le_refl _, Nat.le_refl _, by rw [size_set3]; have := hbw.size; omega, by omega⟩, hrowg, ⟨by rw [flatF_length], by omega, .inl ⟨rfl, h00⟩⟩, hbe⟩
  · have hgl := (World.ownsRow.lt h0 g rfl).2
    have hrow1 : RowS 27 2 (((w9.setCell ⟨R, 0, none⟩ (.int .i64 r)).setCell ⟨R, 1, none⟩ (.int .i64 s')).setCell ⟨R, 2, none⟩ (.slice a E.length cap)) g (g + 1) (.slice (some ⟨g, 0, none⟩) L.length cap') L.length (flatF L) := by
      obtain ⟨q1, q2, ⟨q3, q4⟩ | ⟨g', off', cap2, cur', q3, q4, q5, q6, q7, q8⟩⟩ := hrowf
      · cases q3
      · have e := q3
        injection e with e1 _ _
        injection e1 with e1
        injection e1 with e1 _ _
        subst e1
        exact ⟨q1, q2, .inr ⟨g, off', cap2, cur', q3, Nat.le_refl _, by omega, q6, q7, q8⟩⟩
    exact ⟨a, cap, _, lo, hi, g, g + 1, rfl, ⟨by omega, h3', by rw [size_set3]; exact h4, by omega, by omega, by rw [size_set3]; omega, by have := h6 g rfl; omega⟩, hrowg, hrow1, hbe⟩
/-- The states on the way, whether the graph is valid or not. -/
def ftN (r s : Int) (es : List Ed) (cs : List Int) (i : Nat) : FoldSt := if isGr r s es = true then orN r s es cs i else ⟨s, es, []⟩
theorem ft_len (r s : Int) (es : List Ed) (cs : List Int) (i : Nat) : (ftN r s es cs i).es.length ≤ es.length ∧ (ftN r s es cs i).l.length ≤ i := by
  unfold ftN
  split
  · exact orN_len r s es cs i
  · exact ⟨Nat.le_refl _, by simp⟩
theorem ft_fo (r s : Int) (es : List Ed) (cs : List Int) : foS r s es cs = (ftN r s es cs 40).s ∧ foE r s es cs = (ftN r s es cs 40).es ∧ foL r s es cs = (ftN r s es cs 40).l := by
  unfold foS foE foL ftN
  split <;> exact ⟨rfl, rfl, rfl⟩
set_option maxRecDepth 100000 in
set_option maxHeartbeats 6400000 in
theorem specInOrder (w : World) (r s : Int) (v vc : Value) (es : List Ed) (cs : List Int) (h : ReadE w.heap.size w v es) (hs : -9223372036854775808 ≤ s ∧ s ≤ 9223372036854775807) (hl : es.length ≤ 1048576) (hc : ReadI w.heap.size w vc cs) (hcl : cs.length ≤ 100000000) :
    Calls Try.prog 31 #[.agg #[.int .i64 r, .int .i64 s, v], vc] w (LwGraphFolds w r (foS r s es cs) (foE r s es cs) (foL r s es cs)) := by
  obtain ⟨a, cap, rfl, hnc⟩ := h.form
  obtain ⟨n, hn⟩ : ∃ n, n = es.length := ⟨_, rfl⟩
  rw [← hn] at h
  rw [← hn] at hl hnc ⊢
  obtain ⟨wa, hwa⟩ : ∃ z, z = w.alloc (.cells #[.int .i64 r, .int .i64 s, .slice a n cap] 32) := ⟨_, rfl⟩
  obtain ⟨w1, hw1⟩ : ∃ z, z = wa.alloc (.cells #[.int .i64 0, .int .i64 0, .slice none 0 0] 32) := ⟨_, rfl⟩
  have hww : (w.alloc (.cells #[.int .i64 r, .int .i64 s, .slice a n cap] 32)).alloc (.cells #[.int .i64 0, .int .i64 0, .slice none 0 0] 32) = w1 := by rw [hw1, hwa]
  have hb1 : Below w.heap.size w w1 := by rw [← hww]; exact ((Below.refl _ _).alloc (Nat.le_refl _) _).alloc (by simp) _
  have hs1 : w1.heap.size = w.heap.size + 1 + 1 := by rw [← hww]; simp
  have hg := heap_box w (.cells #[.int .i64 r, .int .i64 s, .slice a n cap] 32) (.cells #[.int .i64 0, .int .i64 0, .slice none 0 0] 32)
  have hR := heap_alloc_new (w.alloc (.cells #[.int .i64 r, .int .i64 s, .slice a n cap] 32)) (.cells #[.int .i64 0, .int .i64 0, .slice none 0 0] 32)
  rw [hww] at hg hR
  rw [show (w.alloc (.cells #[.int .i64 r, .int .i64 s, .slice a n cap] 32)).heap.size = w.heap.size + 1 by simp] at hR
  have g0 : w1.cell? ⟨w.heap.size, 0, none⟩ = some (.int .i64 r) := by simpa using cell_of_heap hg 0
  have g1 : w1.cell? ⟨w.heap.size, 1, none⟩ = some (.int .i64 s) := by simpa using cell_of_heap hg 1
  have g2 : w1.cell? ⟨w.heap.size, 2, none⟩ = some (.slice a n cap) := by simpa using cell_of_heap hg 2
  have hrd1 := (h.below hb1).mono hb1.size
  rw [hn] at hrd1
  have hcopy := specCopy w1 r s _ es hrd1 (by omega)
  rw [← hn] at hcopy hrd1
  obtain ⟨ZS, hZS⟩ : ∃ B, B = foS r s es cs := ⟨_, rfl⟩
  obtain ⟨ZE, hZE⟩ : ∃ B, B = foE r s es cs := ⟨_, rfl⟩
  obtain ⟨ZL, hZL⟩ : ∃ B, B = foL r s es cs := ⟨_, rfl⟩
  obtain ⟨hf1, hf2, hf3⟩ := ft_fo r s es cs
  rw [← hZS] at hf1
  rw [← hZE] at hf2
  rw [← hZL] at hf3
  rw [← hZS, ← hZE, ← hZL]
  obtain ⟨B, hB⟩ : ∃ B, B = isGr r s es := ⟨_, rfl⟩
  have hisx := fun (W : World) (hr : ReadE W.heap.size W (.slice a es.length cap) es) => specIsGr W r s _ es hr hs (by omega)
  rw [← hn, ← hB] at hisx
  have hRk : ∀ W, Below w1.heap.size w1 W → W.heap[w.heap.size + 1]? = some (.cells #[.int .i64 0, .int .i64 0, .slice none 0 0] 32 (0, 0)) := fun W hW => by rw [hW.block _ (by omega)]; exact hR
  have hc0 := hidI hc
  obtain ⟨_, ac, cc0, rfl, _, _⟩ := hc
  obtain ⟨nc, hnc2⟩ : ∃ z, z = cs.length := ⟨_, rfl⟩
  rw [← hnc2] at hcl hc0 ⊢
  replace hisx := hidI hisx
  replace hRk := hidI hRk
  replace hww := hidI hww
  replace hn := hidI hn
  replace h := hidI h
  replace hg := hidI hg
  replace hR := hidI hR
  replace hs1 := hidI hs1
  replace hZS := hidI hZS
  replace hZE := hidI hZE
  replace hZL := hidI hZL
  replace hf1 := hidI hf1
  replace hf2 := hidI hf2
  replace hf3 := hidI hf3
  replace hwa := hidI hwa
  replace hw1 := hidI hw1
  replace hrd1 := hidI hrd1
  replace hB := hidI hB
  replace hnc2 := hidI hnc2
  go_enter Try.func31, Try.ntmps31
  go_upto_region 1 with fail
  rw [hww.out]
  go_wp2_with fail
  refine hcopy.mono ?_
  rintro e w2 ⟨ca, cc, rfl, hrow2, hb2⟩
  rw [← hn.out]
  clear hcopy
  have hlt1 : w.heap.size + 1 < w1.heap.size := by have := hs1.out; omega
  have hb2l : w1.heap.size ≤ w2.heap.size := hb2.size
  replace g0 := below_cell g0 hb2 (by omega)
  replace g1 := below_cell g1 hb2 (by omega)
  replace g2 := below_cell g2 hb2 (by omega)
  obtain ⟨w3, hw3⟩ : ∃ z, z = w2.alloc (.cells #[.int .i64 r, .int .i64 s, .slice ca n cc] 32) := ⟨_, rfl⟩
  have hb3 : Below w2.heap.size w2 w3 := by rw [hw3]; exact (Below.refl _ _).alloc (Nat.le_refl _) _
  have hs3 : w3.heap.size = w2.heap.size + 1 := by rw [hw3]; simp
  have hk3 : w3.heap[w2.heap.size]? = some (.cells #[.int .i64 r, .int .i64 s, .slice ca n cc] 32 (0, 0)) := by rw [hw3]; exact heap_alloc_new _ _
  obtain ⟨X, hX⟩ : ∃ X, X = w2.heap.size := ⟨_, rfl⟩
  rw [← hX] at hk3 hs3
  obtain ⟨w4, hw4⟩ : ∃ z, z = w3.alloc (.cells #[] 27) := ⟨_, rfl⟩
  have hb4 : Below w3.heap.size w3 w4 := by rw [hw4]; exact (Below.refl _ _).alloc (Nat.le_refl _) _
  have hown4 : OwnsF w4 w3.heap.size (.slice (some ⟨w3.heap.size, 0, none⟩) 0 0) [] := by rw [hw4]; exact OwnsF.litF w3
  have hb24 := hb3.trans (hb4.mono (by omega))
  have hb14 : Below w1.heap.size w1 w4 := hb2.trans (hb24.mono hb2l)
  have hb04 : Below w.heap.size w w4 := hb1.trans (hb14.mono (by omega))
  replace g0 := below_cell g0 hb24 (by omega)
  replace g1 := below_cell g1 hb24 (by omega)
  replace g2 := below_cell g2 hb24 (by omega)
  have hs34 : X + 1 < w4.heap.size := by have h1 : w4.heap.size = w3.heap.size + 1 := by { rw [hw4]; simp }; omega
  rw [hs3] at hown4
  have hst0 : Hid (∃ v', FoSt w4 X w1.heap.size r (ftN r s es cs 0).s v' (ftN r s es cs 0).es (.slice (some ⟨X + 1, 0, none⟩) 0 0) (ftN r s es cs 0).l) := hidI ⟨.slice ca n cc, by
    have e : ftN r s es cs 0 = ⟨s, es, []⟩ := by unfold ftN; split <;> rfl
    rw [e]
    have hrow := hrow2
    refine ⟨(hb4.block X (by omega)).trans hk3, hown4, w1.heap.size, w2.heap.size, ?_, Nat.le_refl _, hb2l, by have := hb24.size; omega, .inl (by omega), fun b hb => ?_⟩
    · have h5 := hrow.below hb24 (Nat.le_refl _)
      have e2 := hn.out
      rw [e2]; exact h5
    · have := Option.some.inj hb
      right; show w2.heap.size ≤ b
      have e3 : X + 1 = b := this
      omega⟩
  have hkb0 : Hid (Below X w4 w4) := hidI (Below.refl _ _)
  have hbX : w.heap.size + 1 < X := by omega
  have hrd4 : ReadE w.heap.size w4 (.slice a n cap) es := h.out.below hb04
  have hs3' : w3.heap.size = X + 1 := hs3
  replace hs3 := hidI hs3
  replace hk3 := hidI hk3
  replace hb3 := hidI hb3
  replace hb4 := hidI hb4
  replace hb2 := hidI hb2
  replace hb24 := hidI hb24
  replace hb14 := hidI hb14
  replace hb04 := hidI hb04
  replace hown4 := hidI hown4
  replace hrow2 := hidI hrow2
  replace hrd4 := hidI hrd4
  replace hs3' := hidI hs3'
  go_upto_region 2 with fail
  rw [← hw3]
  replace hw3 := hidI hw3
  rw [← hX]
  have hXe := hidI hX
  have hX2 : w2.heap.size ≤ X ∧ X ≤ w2.heap.size := by omega
  clear hX
  go_upto_region 3 with fail
  rw [← hw4]
  replace hw4 := hidI hw4
  rw [hs3'.out]
  clear g0 g1
  go_wp2
  go_loopg [7, 8] 40 (fun g o ii wr => ∃ i : Nat, i + g = 40 ∧ ii = .int .i64 (i : Int) ∧ Hid (∃ v', FoSt wr X w1.heap.size r (ftN r s es cs i).s v' (ftN r s es cs i).es o (ftN r s es cs i).l) ∧ Hid (Below X w4 wr))
  case atStart => exact ⟨0, by omega, by simp, hst0, hkb0⟩
  case round =>
    clear hst0 hkb0
    obtain ⟨i, hi, rfl, hst, hkb⟩ := hrel
    obtain ⟨v6, hP⟩ := hst.out
    obtain ⟨T, hT⟩ : ∃ T, T = ftN r s es cs i := ⟨_, rfl⟩
    obtain ⟨hTl, hTi⟩ := ft_len r s es cs i
    rw [← hT] at hP hTl hTi
    obtain ⟨E, hE⟩ : ∃ E, E = T.es := ⟨_, rfl⟩
    obtain ⟨L, hL⟩ : ∃ E, E = T.l := ⟨_, rfl⟩
    obtain ⟨sz, hsz⟩ : ∃ E, E = T.s := ⟨_, rfl⟩
    rw [← hE, ← hL, ← hsz] at hP
    rw [← hE] at hTl
    rw [← hL] at hTi
    obtain ⟨av, cv, rfl⟩ := hP.form
    obtain ⟨o3, o4, o5, rfl⟩ := hP.2.1.form3
    have p2 := below_cell g2 hkb.out (by omega)
    have hXr : X < wr.heap.size := by have := hkb.out.size; omega
    have hbr : Below w.heap.size w wr := hb04.out.trans (hkb.out.mono (by omega))
    have hbr1 : Below w1.heap.size w1 wr := hb14.out.trans (hkb.out.mono (by omega))
    obtain ⟨m, hm⟩ : ∃ m, m = E.length := ⟨_, rfl⟩
    have hbox := hP.1
    have x0 := cell_of_heap hbox 0
    have x1 := cell_of_heap hbox 1
    have x2 := cell_of_heap hbox 2
    simp at x0 x1 x2
    rw [← hm] at x2
    replace hm := hidI hm
    replace hT := hidI hT
    replace hE := hidI hE
    replace hL := hidI hL
    replace hsz := hidI hsz
    replace hi := hidI hi
    replace hbox := hidI hbox
    clear hst
    by_cases hlt : i < 40
    case neg =>
      obtain rfl : i = 40 := by have := hi.out; omega
      have hki : ¬ ((40 : Nat) : Int) < 40 := by omega
      have hZZ1 : ZS = sz := by rw [hf1.out, hsz.out, hT.out]
      have hZZ2 : ZE = E := by rw [hf2.out, hE.out, hT.out]
      have hZZ3 : ZL = L := by rw [hf3.out, hL.out, hT.out]
      have hRx := hRk.out wr hbr1
      have y0 := cell_of_heap hRx 0
      have y1 := cell_of_heap hRx 1
      have y2 := cell_of_heap hRx 2
      have f2 := fun j => frozen_of_row wr (w.heap.size + 1) j _ _ hRx
      simp at y0 y1 y2
      have hfin := fo_fin (w := w) (w9 := wr) (X := X) (R := w.heap.size + 1) (base := w1.heap.size) (cap := cv) (r := r) (s' := sz) (E := E) (L := L) (a := av) (by omega) (by omega) (by omega) hbr hP (by omega)
      rw [← hm.out] at hfin
      have hset := set3 hRx (.int .i64 r) (.int .i64 sz) (.slice av m cv)
      replace hfin := hidI hfin
      replace hset := hidI hset
      replace hRx := hidI hRx
      replace hP := hidI hP
      replace hbr := hidI hbr
      replace hbr1 := hidI hbr1
      replace hZZ1 := hidI hZZ1
      replace hZZ2 := hidI hZZ2
      replace hZZ3 := hidI hZZ3
      go_wp2
      (try simp only [Exit.inBlock, Exit.then])
      refine ret_cell2 (x := .slice o3 o4 o5) rfl rfl rfl hset.out Try.underlying32 sizeGraph ?_
      rw [hZZ1.out, hZZ2.out, hZZ3.out]
      exact hfin.out
    have hki : (i : Int) < 40 := by omega
    have p0 := fun j => (hkb.out.block w.heap.size (by omega))
    have hgx : wr.heap[w.heap.size]? = some (.cells #[.int .i64 r, .int .i64 s, .slice a n cap] 32 (0, 0)) := by
      rw [hbr1.block w.heap.size (by omega)]; exact hg.out
    have q0 := cell_of_heap hgx 0
    have q1 := cell_of_heap hgx 1
    simp at q0 q1
    have his := hisx.out wr ((hrd4.out.below (hkb.out.mono (by omega))).mono (by have := hbr.size; omega))
    replace hgx := hidI hgx
    clear p0
    replace hbr := hidI hbr
    replace hbr1 := hidI hbr1
    replace hP := hidI hP
    go_wp2_with fail
    refine his.mono ?_
    rintro e w6 ⟨rfl, hb6⟩
    clear his
    have hP0 := hP.out.below hXr hb6
    clear hP
    have hP := hP0
    clear hP0
    have hs6 := hb6.size
    replace x0 := below_cell x0 hb6 hXr
    replace x1 := below_cell x1 hb6 hXr
    replace x2 := below_cell x2 hb6 hXr
    have hkb6 : Below X w4 w6 := hkb.out.trans (hb6.mono (by omega))
    have hbr6 : Below w.heap.size w w6 := hbr.out.trans (hb6.mono hbr.out.size)
    have hbr16 : Below w1.heap.size w1 w6 := hbr1.out.trans (hb6.mono hbr1.out.size)
    clear hbr hbr1
    have hbr := hbr6
    have hbr1 := hbr16
    clear hbr6 hbr16 p2 q0 q1
    cases hBB : B with
    | false =>
      subst hBB
      have hbf : isGr r s es = false := hB.out.symm
      have hft : ∀ j, ftN r s es cs j = ⟨s, es, []⟩ := fun j => by unfold ftN; rw [if_neg (by rw [hbf]; simp)]
      have hZZ1 : ZS = sz := by rw [hf1.out, hsz.out, hT.out, hft, hft]
      have hZZ2 : ZE = E := by rw [hf2.out, hE.out, hT.out, hft, hft]
      have hZZ3 : ZL = L := by rw [hf3.out, hL.out, hT.out, hft, hft]
      replace hB := hidI hB.out
      replace hkb6 := hidI hkb6
      replace hb6 := hidI hb6
      replace hbf := hidI hbf
      replace hft := hidI hft
      have hRx := hRk.out w6 hbr1
      have y0 := cell_of_heap hRx 0
      have y1 := cell_of_heap hRx 1
      have y2 := cell_of_heap hRx 2
      have f2 := fun j => frozen_of_row w6 (w.heap.size + 1) j _ _ hRx
      simp at y0 y1 y2
      have hfin := fo_fin (w := w) (w9 := w6) (X := X) (R := w.heap.size + 1) (base := w1.heap.size) (cap := cv) (r := r) (s' := sz) (E := E) (L := L) (a := av) (by omega) (by omega) (by omega) hbr hP (by omega)
      rw [← hm.out] at hfin
      have hset := set3 hRx (.int .i64 r) (.int .i64 sz) (.slice av m cv)
      replace hfin := hidI hfin
      replace hset := hidI hset
      replace hRx := hidI hRx
      replace hP := hidI hP
      replace hbr := hidI hbr
      replace hbr1 := hidI hbr1
      replace hZZ1 := hidI hZZ1
      replace hZZ2 := hidI hZZ2
      replace hZZ3 := hidI hZZ3
      go_wp2
      (try simp only [Exit.inBlock, Exit.then])
      refine ret_cell2 (x := .slice o3 o4 o5) rfl rfl rfl hset.out Try.underlying32 sizeGraph ?_
      rw [hZZ1.out, hZZ2.out, hZZ3.out]
      exact hfin.out
    | true =>
      subst hBB
      have hgr := hidI hB.out.symm
      replace hB := hidI hB.out
      have hTo : T = orN r s es cs i := by rw [hT.out]; unfold ftN; rw [if_pos hgr.out]
      have hgi : isGr r sz E = true := by rw [hsz.out, hE.out, hTo]; exact or_gr hgr.out i
      have hEl : E.length ≤ 120 := (isGr_iff.1 hgi).2.2.2.2.2
      have hszb : 1 ≤ sz ∧ sz ≤ 40 := ⟨(isGr_iff.1 hgi).2.2.2.1, (isGr_iff.1 hgi).2.2.2.2.1⟩
      have hpf := specFolds w6 r sz _ E hP.read (by omega)
      obtain ⟨FF, hFF⟩ : ∃ z, z = foldsF E := ⟨_, rfl⟩
      rw [← hFF, ← hm.out] at hpf
      have hFl : FF.length ≤ 28800 := by
        have h1 := foldsF_length E
        have : E.length * E.length ≤ 120 * 120 := Nat.mul_le_mul hEl hEl
        rw [hFF]; omega
      have hmem : ∀ q, q < FF.length → okM r sz E (FF.getD q zeroF) = true := fun q hq => by
        rw [hFF] at hq ⊢
        exact folds_ok hgi (getF_mem hq)
      replace hmem := hidI hmem
      replace hTo := hidI hTo
      replace hgi := hidI hgi
      replace hFF := hidI hFF
      replace hP := hidI hP
      replace hbr := hidI hbr
      replace hbr1 := hidI hbr1
      replace hkb6 := hidI hkb6
      replace hb6 := hidI hb6
      go_wp2_with fail
      refine hpf.mono ?_
      rintro e w7 ⟨aL, cL, rfl, hrow7, hb7⟩
      clear hpf
      have hX6 : X < w6.heap.size := by omega
      have hs7 := hb7.size
      have hP0 := hP.out.below hX6 hb7
      clear hP
      have hP := hP0
      clear hP0
      replace x0 := below_cell x0 hb7 hX6
      replace x1 := below_cell x1 hb7 hX6
      replace x2 := below_cell x2 hb7 hX6
      have hkb7 : Below X w4 w7 := hkb6.out.trans (hb7.mono (by omega))
      have hbr7 : Below w.heap.size w w7 := hbr.out.trans (hb7.mono hbr.out.size)
      have hbr17 : Below w1.heap.size w1 w7 := hbr1.out.trans (hb7.mono hbr1.out.size)
      clear hbr hbr1
      have hbr := hbr7
      have hbr1 := hbr17
      clear hbr7 hbr17
      by_cases h0 : FF.length = 0
      case pos =>
        have t0 : ((FF.length : Int) == 0) = true := by rw [beq_iff_eq]; omega
        have hor : orN r s es cs 40 = T := by
          have := orN_stop r s es cs (i := i) (by rw [← hTo.out, ← hE.out, ← hFF.out]; exact h0) (40 - i)
          rw [show i + (40 - i) = 40 by omega] at this
          rw [this, hTo.out]
        have hft : ftN r s es cs 40 = T := by unfold ftN; rw [if_pos hgr.out]; exact hor
        have hZZ1 : ZS = sz := by rw [hf1.out, hsz.out, hft]
        have hZZ2 : ZE = E := by rw [hf2.out, hE.out, hft]
        have hZZ3 : ZL = L := by rw [hf3.out, hL.out, hft]
        replace h0 := hidI h0
        replace hor := hidI hor
        replace hft := hidI hft
        replace hkb7 := hidI hkb7
        replace hb7 := hidI hb7
        replace hrow7 := hidI hrow7
        have hRx := hRk.out w7 hbr1
        have y0 := cell_of_heap hRx 0
        have y1 := cell_of_heap hRx 1
        have y2 := cell_of_heap hRx 2
        have f2 := fun j => frozen_of_row w7 (w.heap.size + 1) j _ _ hRx
        simp at y0 y1 y2
        have hfin := fo_fin (w := w) (w9 := w7) (X := X) (R := w.heap.size + 1) (base := w1.heap.size) (cap := cv) (r := r) (s' := sz) (E := E) (L := L) (a := av) (by omega) (by omega) (by omega) hbr hP (by omega)
        rw [← hm.out] at hfin
        have hset := set3 hRx (.int .i64 r) (.int .i64 sz) (.slice av m cv)
        replace hfin := hidI hfin
        replace hset := hidI hset
        replace hRx := hidI hRx
        replace hP := hidI hP
        replace hbr := hidI hbr
        replace hbr1 := hidI hbr1
        replace hZZ1 := hidI hZZ1
        replace hZZ2 := hidI hZZ2
        replace hZZ3 := hidI hZZ3
        go_wp2
        (try simp only [Exit.inBlock, Exit.then])
        refine ret_cell2 (x := .slice o3 o4 o5) rfl rfl rfl hset.out Try.underlying32 sizeGraph ?_
        rw [hZZ1.out, hZZ2.out, hZZ3.out]
        exact hfin.out
      have t0 : ((FF.length : Int) == 0) = false := by rw [beq_eq_false_iff_ne]; omega
      have hrd7 : ReadF w7.heap.size w7 (.slice aL FF.length cL) FF := hrow7.read
      have hcq := chN_lt (cs := cs) (i := i) (n := FF.length) (Nat.pos_of_ne_zero h0)
      obtain ⟨q, hq⟩ : ∃ q, q = chN cs i FF.length := ⟨_, rfl⟩
      rw [← hq] at hcq
      have hoff7 : ∃ b off, aL = some ⟨b, off, none⟩ ∧ w6.heap.size ≤ b ∧ w7.cell? ⟨b, off + q * 2, none⟩ = some (.int .i64 (FF.getD q zeroF).1) ∧ w7.cell? ⟨b, off + q * 2 + 1, none⟩ = some (.int .i64 (FF.getD q zeroF).2) := by
        obtain ⟨b, off, haL, hbB, c0, c1⟩ := ReadF.cells hrd7 q hcq
        refine ⟨b, off, haL, ?_, c0, c1⟩
        obtain ⟨_, _, ⟨e1, _⟩ | ⟨g', off', cap2, cur', e1, e2, _⟩⟩ := hrow7
        · rw [haL] at e1; cases e1
        · rw [haL] at e1
          injection e1 with e1 _ _
          injection e1 with e1
          injection e1 with e1 _ _
          omega
      obtain ⟨b, off, rfl, hb6l, c0, c1⟩ := hoff7
      have hfo := hmem.out q hcq
      obtain ⟨⟨k, d⟩, hkd⟩ : ∃ f, f = FF.getD q zeroF := ⟨_, rfl⟩
      rw [← hkd] at c0 c1 hfo
      simp only at c0 c1
      have hstep2 : ftN r s es cs (i + 1) = ⟨mrS r sz E (k, d), mrE r sz E (k, d), L ++ [(k, d)]⟩ := by
        have := or_step (r := r) (s := s) (es := es) (cs := cs) (i := i) (by rw [← hTo.out, ← hE.out, ← hFF.out]; exact h0)
        unfold ftN
        rw [if_pos hgr.out, this, ← hTo.out, ← hE.out, ← hL.out, ← hsz.out, ← hFF.out, ← hq, ← hkd]
      have hbX7 : b ≠ X := by omega
      have hqi : (q : Int) < (FF.length : Int) := by omega
      have hqw : IntKind.i64.wrap (q : Int) = (q : Int) := IntWalk.i64_in _ (by omega)
      have hX7 : X < w7.heap.size := by omega
      have hrdc := hc0.out.below hbr
      replace hb7 := hidI hb7
      replace hrow7 := hidI hrow7
      replace hrd7 := hidI hrd7
      replace hstep2 := hidI hstep2
      replace hfo := hidI hfo
      replace hkd := hidI hkd
      replace hbr := hidI hbr
      replace hbr1 := hidI hbr1
      replace hcq := hidI hcq
      replace h0 := hidI h0
      have hxx0 := x0
      have hxx1 := x1
      have hxx2 := x2
      by_cases hci : i < nc
      case neg =>
        have hcii : ¬ (i : Int) < (nc : Int) := by omega
        have hq0 : q = 0 := by rw [hq]; unfold chN; rw [if_neg (fun h => hci (by have := hnc2.out; omega))]
        subst hq0
        replace hq := hidI hq
        simp only [Nat.zero_mul, Nat.add_zero] at c0 c1
        have hqi0 : (0 : Int) < (FF.length : Int) := by omega
        have hqn0 : 0 < FF.length := by omega
        obtain ⟨u, hu⟩ : ∃ z, z = w7.drew := ⟨_, rfl⟩
        have hPu : FoSt u X w1.heap.size r sz (.slice av E.length cv) E (.slice o3 o4 o5) L := by rw [hu]; exact hP.drew
        have hku : Below X w4 u := by rw [hu]; exact below_dn hkb7 1
        have hsu : u.heap.size = w7.heap.size := by rw [hu]; rfl
        have uc0 : u.cell? ⟨b, off, none⟩ = some (.int .i64 k) := by rw [hu]; exact c0
        have uc1 : u.cell? ⟨b, off + 1, none⟩ = some (.int .i64 d) := by rw [hu]; exact c1
        have ux0 : u.cell? ⟨X, 0, none⟩ = some (.int .i64 r) := by rw [hu]; exact x0
        have ux1 : u.cell? ⟨X, 1, none⟩ = some (.int .i64 sz) := by rw [hu]; exact x1
        have ux2 : u.cell? ⟨X, 2, none⟩ = some (.slice av m cv) := by rw [hu]; exact x2
        have hcall := specMerge u r sz k d (.slice av E.length cv) E hPu.read (by omega) (by omega)
        rw [← hm.out] at hcall
        obtain ⟨ME, hME⟩ : ∃ z, z = mrE r sz E (k, d) := ⟨_, rfl⟩
        obtain ⟨MS, hMS⟩ : ∃ z, z = mrS r sz E (k, d) := ⟨_, rfl⟩
        obtain ⟨OB, hOB⟩ : ∃ z, z = okM r sz E (k, d) := ⟨_, rfl⟩
        rw [← hME, ← hMS, ← hOB] at hcall
        have hst2 := hstep2.out
        rw [← hME, ← hMS] at hst2
        have hbu : b < u.heap.size := by
          rcases Nat.lt_or_ge b u.heap.size with h | h
          · exact h
          · unfold World.cell? at uc0
            rw [show u.heap[(⟨b, off, none⟩ : Addr).block]? = none from Array.getElem?_eq_none h] at uc0
            cases uc0
        replace hst2 := hidI hst2
        replace hME := hidI hME
        replace hMS := hidI hMS
        replace hOB := hidI hOB
        replace hP := hidI hP
        replace hPu := hidI hPu
        replace hku := hidI hku
        replace hkb7 := hidI hkb7
        replace hu := hidI hu
        replace hrdc := hidI hrdc
        go_wp2_with fail
        refine hideQ (fun _ _ d _ _ h => by cases d <;> exact h) (fun Q' hnorm hpan => ?_)
        refine wp_region_held_drew (S := fun z => z.cell? ⟨b, off, none⟩ = some (.int .i64 k) ∧ z.cell? ⟨b, off + 1, none⟩ = some (.int .i64 d)) (by kernel_rfl) ?_ (fun hHeld => ?_)
        · try dsimp only
          rw [← hu.out]
          ((repeat' apply And.intro) <;> assumption)
        rw [← hu.out] at hHeld ⊢
        refine take_at 1 49 (v := ?_) rfl (by kernel_rfl) (by kernel_rfl) (by kernel_rfl) (by kernel_rfl) hpan (Or.inl ⟨by rfl, ?_⟩) (by assumption) ?_
        rotate_left
        · intro w hSw; (try dsimp only at hSw); go_simp; with_reducible rfl
        simp only [Act.put, List.setIfInBounds_toArray, List.set_cons_zero, List.set_cons_succ]
        refine take_at 2 50 (v := ?_) rfl (by kernel_rfl) (by kernel_rfl) (by kernel_rfl) (by kernel_rfl) hpan (Or.inl ⟨by rfl, ?_⟩) (by assumption) ?_
        rotate_left
        · intro w hSw; (try dsimp only at hSw); go_simp; with_reducible rfl
        simp only [Act.put, List.setIfInBounds_toArray, List.set_cons_zero, List.set_cons_succ]
        refine take_at 3 51 (v := ?_) rfl (by kernel_rfl) (by kernel_rfl) (by kernel_rfl) (by kernel_rfl) hpan (Or.inl ⟨by rfl, ?_⟩) (by assumption) ?_
        rotate_left
        · intro w hSw; (try dsimp only at hSw); go_simp; with_reducible rfl
        simp only [Act.put, List.setIfInBounds_toArray, List.set_cons_zero, List.set_cons_succ]
        refine take_at 4 52 (v := ?_) rfl (by kernel_rfl) (by kernel_rfl) (by kernel_rfl) (by kernel_rfl) hpan (Or.inl ⟨by rfl, ?_⟩) (by assumption) ?_
        rotate_left
        · intro w hSw; (try dsimp only at hSw); go_simp; with_reducible rfl
        simp only [Act.put, List.setIfInBounds_toArray, List.set_cons_zero, List.set_cons_succ]
        refine wpAnyH_ready (rs := [0]) (by kernel_rfl) (by simp) ?_
        refine AllReadyH.cons rfl (fun Kz hK => ?_) AllReadyH.nil
        rw [if_pos (by rfl)]
        go_simp
        refine hK.out _ _ ?_ (fun hHeld => ?_)
        · try dsimp only
          ((repeat' apply And.intro) <;> assumption)
        clear hK
        try simp only [Act.put, List.setIfInBounds_toArray, List.set_cons_zero, List.set_cons_succ]
        refine wpAnyH_ready (rs := [5]) (by kernel_rfl) (by simp) ?_
        refine AllReadyH.cons rfl (fun Kz hK => ?_) AllReadyH.nil
        rw [if_pos (by rfl)]
        go_simp
        go_at_call 15
        (with_reducible refine hcall.mono ?_)
        rintro e w8 ⟨a8, c8, rfl, hrow8, hb8⟩
        have hs8 := hb8.size
        have hXu : X < u.heap.size := by omega
        have hP8 := hPu.out.store (sz' := MS) (E' := ME) hXu hb8 (by omega) hrow8
        have hX8 := (hb8.block X hXu).trans hPu.out.1
        have z0 := cell_of_heap hX8 0
        have z1 := cell_of_heap hX8 1
        have z2 := cell_of_heap hX8 2
        have ff := fun j => frozen_of_row w8 X j _ _ hX8
        simp at z0 z1 z2
        replace uc0 := below_cell uc0 hb8 hbu
        replace uc1 := below_cell uc1 hb8 hbu
        obtain ⟨m8, hm8⟩ : ∃ z, z = ME.length := ⟨_, rfl⟩
        rw [← hm8] at hP8 ⊢
        obtain ⟨w9, hw9⟩ : ∃ z, z = ((w8.setCell ⟨X, 0, none⟩ (.int .i64 r)).setCell ⟨X, 1, none⟩ (.int .i64 MS)).setCell ⟨X, 2, none⟩ (.slice a8 m8 c8) := ⟨_, rfl⟩
        rw [← hw9] at hP8
        have hk9 : ∀ j, j ≠ X → w9.heap[j]? = w8.heap[j]? := fun j hj => by rw [hw9]; exact heap_set3 hj
        have v0 : w9.cell? ⟨b, off, none⟩ = some (.int .i64 k) := (World.cell?_of_block (w := w8) (a := ⟨b, off, none⟩) (hk9 b hbX7)).trans uc0
        have v1 : w9.cell? ⟨b, off + 1, none⟩ = some (.int .i64 d) := (World.cell?_of_block (w := w8) (a := ⟨b, off + 1, none⟩) (hk9 b hbX7)).trans uc1
        have hk49 : Below X w4 w9 := by
          rw [hw9]
          exact (((hku.out.trans (hb8.mono (by omega))).setCell (p := ⟨X, 0, none⟩) (Nat.le_refl _) _).setCell (p := ⟨X, 1, none⟩) (Nat.le_refl _) _).setCell (p := ⟨X, 2, none⟩) (Nat.le_refl _) _
        have hs9 : w9.heap.size = w8.heap.size := by rw [hw9]; exact size_set3
        replace hP8 := hidI hP8
        replace hX8 := hidI hX8
        replace hrow8 := hidI hrow8
        replace hb8 := hidI hb8
        replace hm8 := hidI hm8
        replace hk9 := hidI hk9
        replace hk49 := hidI hk49
        replace hw9 := hidI hw9
        replace hs9 := hidI hs9
        clear ux0 ux1 ux2
        refine hK.out _ _ ?_ (fun hHeld => ?_)
        · try dsimp only
          ((repeat' apply And.intro) <;> assumption)
        clear hK
        try simp only [Act.put, List.setIfInBounds_toArray, List.set_cons_zero, List.set_cons_succ]
        refine take_at 6 47 (v := ?_) rfl (by kernel_rfl) (by kernel_rfl) (by kernel_rfl) (by kernel_rfl) hpan (Or.inl ⟨by rfl, ?_⟩) (by assumption) ?_
        rotate_left
        · intro w hSw; (try dsimp only at hSw); go_simp; with_reducible rfl
        simp only [Act.put, List.setIfInBounds_toArray, List.set_cons_zero, List.set_cons_succ]
        refine take_at 7 54 (v := ?_) rfl (by kernel_rfl) (by kernel_rfl) (by kernel_rfl) (by kernel_rfl) hpan (Or.inl ⟨by rfl, ?_⟩) (by assumption) ?_
        rotate_left
        · intro w hSw; (try dsimp only at hSw); go_simp; with_reducible rfl
        simp only [Act.put, List.setIfInBounds_toArray, List.set_cons_zero, List.set_cons_succ]
        refine take_at 8 55 (v := ?_) rfl (by kernel_rfl) (by kernel_rfl) (by kernel_rfl) (by kernel_rfl) hpan (Or.inl ⟨by rfl, ?_⟩) (by assumption) ?_
        rotate_left
        · intro w hSw; (try dsimp only at hSw); go_simp; with_reducible rfl
        simp only [Act.put, List.setIfInBounds_toArray, List.set_cons_zero, List.set_cons_succ]
        refine wpAnyH_ready (rs := [9]) (by kernel_rfl) (by simp) ?_
        refine AllReadyH.cons rfl (fun Kz hK => ?_) AllReadyH.nil
        rw [if_pos (by rfl)]
        go_simp
        rw [← hw9.out]
        clear uc0 uc1
        refine hK.out _ _ ?_ (fun hHeld => ?_)
        · try dsimp only
          ((repeat' apply And.intro) <;> assumption)
        clear hK
        try simp only [Act.put, List.setIfInBounds_toArray, List.set_cons_zero, List.set_cons_succ]
        refine wpAnyH_done (by kernel_rfl) ?_ _
        refine hnorm _ _ ?_
        clear hnorm hpan
        repeat clear hHeld
        try simp only [Exit.then]
        clear z0 z1 z2 ff x0 x1 x2 c0 c1 hcall
        have hX9 : X < w9.heap.size := by have := hs9.out; omega
        go_wp2_with (at_builtin; go_must (refine wpList_pushF_at rfl _ _ rfl (X + 1) (.slice o3 o4 o5) L _ _ rfl rfl (by exact hP8.out.2.1) (by omega) (by omega) ?_))
        intro v10 w10 hown10 hg10 hloc10
        have hst9 : Hid (∃ v', FoSt w10 X w1.heap.size r (ftN r s es cs (i + 1)).s v' (ftN r s es cs (i + 1)).es v10 (ftN r s es cs (i + 1)).l) := hidI ⟨_, by rw [hst2.out]; exact hP8.out.push hX9 hown10 hg10 hloc10⟩
        have hkb10 : Hid (Below X w4 w10) := hidI ((hk49.out.alloc (by omega) _).grown hg10 (by simp; omega) (fun j hj => by have := (World.ownsRow.lt hP8.out.2.1 j hj).1; omega))
        replace hown10 := hidI hown10
        replace hg10 := hidI hg10
        replace hloc10 := hidI hloc10
        go_wp2
        go_roundg (40 - (i + 1))
        case rel => exact ⟨i + 1, by omega, by go_num, hst9, hkb10⟩
        case measure => have := hi.out; omega
      have hcii : (i : Int) < (nc : Int) := by omega
      obtain ⟨cb, co, hac, _, hcc⟩ := (show ReadI _ w7 _ cs from hrdc).at2 i (by have := hnc2.out; omega)
      subst hac
      obtain ⟨c, hcv⟩ : ∃ c, c = cs.getD i 0 := ⟨_, rfl⟩
      rw [← hcv] at hcc
      by_cases hcp : 0 < c
      case neg =>
        have hq0 : q = 0 := by rw [hq]; unfold chN; rw [if_neg (fun h => hcp (by omega))]
        subst hq0
        replace hq := hidI hq
        replace hcv := hidI hcv
        simp only [Nat.zero_mul, Nat.add_zero] at c0 c1
        have hqi0 : (0 : Int) < (FF.length : Int) := by omega
        have hqn0 : 0 < FF.length := by omega
        obtain ⟨u, hu⟩ : ∃ z, z = w7.drew := ⟨_, rfl⟩
        have hPu : FoSt u X w1.heap.size r sz (.slice av E.length cv) E (.slice o3 o4 o5) L := by rw [hu]; exact hP.drew
        have hku : Below X w4 u := by rw [hu]; exact below_dn hkb7 1
        have hsu : u.heap.size = w7.heap.size := by rw [hu]; rfl
        have uc0 : u.cell? ⟨b, off, none⟩ = some (.int .i64 k) := by rw [hu]; exact c0
        have uc1 : u.cell? ⟨b, off + 1, none⟩ = some (.int .i64 d) := by rw [hu]; exact c1
        have ux0 : u.cell? ⟨X, 0, none⟩ = some (.int .i64 r) := by rw [hu]; exact x0
        have ux1 : u.cell? ⟨X, 1, none⟩ = some (.int .i64 sz) := by rw [hu]; exact x1
        have ux2 : u.cell? ⟨X, 2, none⟩ = some (.slice av m cv) := by rw [hu]; exact x2
        have hcall := specMerge u r sz k d (.slice av E.length cv) E hPu.read (by omega) (by omega)
        rw [← hm.out] at hcall
        obtain ⟨ME, hME⟩ : ∃ z, z = mrE r sz E (k, d) := ⟨_, rfl⟩
        obtain ⟨MS, hMS⟩ : ∃ z, z = mrS r sz E (k, d) := ⟨_, rfl⟩
        obtain ⟨OB, hOB⟩ : ∃ z, z = okM r sz E (k, d) := ⟨_, rfl⟩
        rw [← hME, ← hMS, ← hOB] at hcall
        have hst2 := hstep2.out
        rw [← hME, ← hMS] at hst2
        have hbu : b < u.heap.size := by
          rcases Nat.lt_or_ge b u.heap.size with h | h
          · exact h
          · unfold World.cell? at uc0
            rw [show u.heap[(⟨b, off, none⟩ : Addr).block]? = none from Array.getElem?_eq_none h] at uc0
            cases uc0
        replace hst2 := hidI hst2
        replace hME := hidI hME
        replace hMS := hidI hMS
        replace hOB := hidI hOB
        replace hP := hidI hP
        replace hPu := hidI hPu
        replace hku := hidI hku
        replace hkb7 := hidI hkb7
        replace hu := hidI hu
        replace hrdc := hidI hrdc
        go_wp2_with fail
        refine hideQ (fun _ _ d _ _ h => by cases d <;> exact h) (fun Q' hnorm hpan => ?_)
        refine wp_region_held_drew (S := fun z => z.cell? ⟨b, off, none⟩ = some (.int .i64 k) ∧ z.cell? ⟨b, off + 1, none⟩ = some (.int .i64 d)) (by kernel_rfl) ?_ (fun hHeld => ?_)
        · try dsimp only
          rw [← hu.out]
          ((repeat' apply And.intro) <;> assumption)
        rw [← hu.out] at hHeld ⊢
        refine take_at 1 49 (v := ?_) rfl (by kernel_rfl) (by kernel_rfl) (by kernel_rfl) (by kernel_rfl) hpan (Or.inl ⟨by rfl, ?_⟩) (by assumption) ?_
        rotate_left
        · intro w hSw; (try dsimp only at hSw); go_simp; with_reducible rfl
        simp only [Act.put, List.setIfInBounds_toArray, List.set_cons_zero, List.set_cons_succ]
        refine take_at 2 50 (v := ?_) rfl (by kernel_rfl) (by kernel_rfl) (by kernel_rfl) (by kernel_rfl) hpan (Or.inl ⟨by rfl, ?_⟩) (by assumption) ?_
        rotate_left
        · intro w hSw; (try dsimp only at hSw); go_simp; with_reducible rfl
        simp only [Act.put, List.setIfInBounds_toArray, List.set_cons_zero, List.set_cons_succ]
        refine take_at 3 51 (v := ?_) rfl (by kernel_rfl) (by kernel_rfl) (by kernel_rfl) (by kernel_rfl) hpan (Or.inl ⟨by rfl, ?_⟩) (by assumption) ?_
        rotate_left
        · intro w hSw; (try dsimp only at hSw); go_simp; with_reducible rfl
        simp only [Act.put, List.setIfInBounds_toArray, List.set_cons_zero, List.set_cons_succ]
        refine take_at 4 52 (v := ?_) rfl (by kernel_rfl) (by kernel_rfl) (by kernel_rfl) (by kernel_rfl) hpan (Or.inl ⟨by rfl, ?_⟩) (by assumption) ?_
        rotate_left
        · intro w hSw; (try dsimp only at hSw); go_simp; with_reducible rfl
        simp only [Act.put, List.setIfInBounds_toArray, List.set_cons_zero, List.set_cons_succ]
        refine wpAnyH_ready (rs := [0]) (by kernel_rfl) (by simp) ?_
        refine AllReadyH.cons rfl (fun Kz hK => ?_) AllReadyH.nil
        rw [if_pos (by rfl)]
        go_simp
        refine hK.out _ _ ?_ (fun hHeld => ?_)
        · try dsimp only
          ((repeat' apply And.intro) <;> assumption)
        clear hK
        try simp only [Act.put, List.setIfInBounds_toArray, List.set_cons_zero, List.set_cons_succ]
        refine wpAnyH_ready (rs := [5]) (by kernel_rfl) (by simp) ?_
        refine AllReadyH.cons rfl (fun Kz hK => ?_) AllReadyH.nil
        rw [if_pos (by rfl)]
        go_simp
        go_at_call 15
        (with_reducible refine hcall.mono ?_)
        rintro e w8 ⟨a8, c8, rfl, hrow8, hb8⟩
        have hs8 := hb8.size
        have hXu : X < u.heap.size := by omega
        have hP8 := hPu.out.store (sz' := MS) (E' := ME) hXu hb8 (by omega) hrow8
        have hX8 := (hb8.block X hXu).trans hPu.out.1
        have z0 := cell_of_heap hX8 0
        have z1 := cell_of_heap hX8 1
        have z2 := cell_of_heap hX8 2
        have ff := fun j => frozen_of_row w8 X j _ _ hX8
        simp at z0 z1 z2
        replace uc0 := below_cell uc0 hb8 hbu
        replace uc1 := below_cell uc1 hb8 hbu
        obtain ⟨m8, hm8⟩ : ∃ z, z = ME.length := ⟨_, rfl⟩
        rw [← hm8] at hP8 ⊢
        obtain ⟨w9, hw9⟩ : ∃ z, z = ((w8.setCell ⟨X, 0, none⟩ (.int .i64 r)).setCell ⟨X, 1, none⟩ (.int .i64 MS)).setCell ⟨X, 2, none⟩ (.slice a8 m8 c8) := ⟨_, rfl⟩
        rw [← hw9] at hP8
        have hk9 : ∀ j, j ≠ X → w9.heap[j]? = w8.heap[j]? := fun j hj => by rw [hw9]; exact heap_set3 hj
        have v0 : w9.cell? ⟨b, off, none⟩ = some (.int .i64 k) := (World.cell?_of_block (w := w8) (a := ⟨b, off, none⟩) (hk9 b hbX7)).trans uc0
        have v1 : w9.cell? ⟨b, off + 1, none⟩ = some (.int .i64 d) := (World.cell?_of_block (w := w8) (a := ⟨b, off + 1, none⟩) (hk9 b hbX7)).trans uc1
        have hk49 : Below X w4 w9 := by
          rw [hw9]
          exact (((hku.out.trans (hb8.mono (by omega))).setCell (p := ⟨X, 0, none⟩) (Nat.le_refl _) _).setCell (p := ⟨X, 1, none⟩) (Nat.le_refl _) _).setCell (p := ⟨X, 2, none⟩) (Nat.le_refl _) _
        have hs9 : w9.heap.size = w8.heap.size := by rw [hw9]; exact size_set3
        replace hP8 := hidI hP8
        replace hX8 := hidI hX8
        replace hrow8 := hidI hrow8
        replace hb8 := hidI hb8
        replace hm8 := hidI hm8
        replace hk9 := hidI hk9
        replace hk49 := hidI hk49
        replace hw9 := hidI hw9
        replace hs9 := hidI hs9
        clear ux0 ux1 ux2
        refine hK.out _ _ ?_ (fun hHeld => ?_)
        · try dsimp only
          ((repeat' apply And.intro) <;> assumption)
        clear hK
        try simp only [Act.put, List.setIfInBounds_toArray, List.set_cons_zero, List.set_cons_succ]
        refine take_at 6 47 (v := ?_) rfl (by kernel_rfl) (by kernel_rfl) (by kernel_rfl) (by kernel_rfl) hpan (Or.inl ⟨by rfl, ?_⟩) (by assumption) ?_
        rotate_left
        · intro w hSw; (try dsimp only at hSw); go_simp; with_reducible rfl
        simp only [Act.put, List.setIfInBounds_toArray, List.set_cons_zero, List.set_cons_succ]
        refine take_at 7 54 (v := ?_) rfl (by kernel_rfl) (by kernel_rfl) (by kernel_rfl) (by kernel_rfl) hpan (Or.inl ⟨by rfl, ?_⟩) (by assumption) ?_
        rotate_left
        · intro w hSw; (try dsimp only at hSw); go_simp; with_reducible rfl
        simp only [Act.put, List.setIfInBounds_toArray, List.set_cons_zero, List.set_cons_succ]
        refine take_at 8 55 (v := ?_) rfl (by kernel_rfl) (by kernel_rfl) (by kernel_rfl) (by kernel_rfl) hpan (Or.inl ⟨by rfl, ?_⟩) (by assumption) ?_
        rotate_left
        · intro w hSw; (try dsimp only at hSw); go_simp; with_reducible rfl
        simp only [Act.put, List.setIfInBounds_toArray, List.set_cons_zero, List.set_cons_succ]
        refine wpAnyH_ready (rs := [9]) (by kernel_rfl) (by simp) ?_
        refine AllReadyH.cons rfl (fun Kz hK => ?_) AllReadyH.nil
        rw [if_pos (by rfl)]
        go_simp
        rw [← hw9.out]
        clear uc0 uc1
        refine hK.out _ _ ?_ (fun hHeld => ?_)
        · try dsimp only
          ((repeat' apply And.intro) <;> assumption)
        clear hK
        try simp only [Act.put, List.setIfInBounds_toArray, List.set_cons_zero, List.set_cons_succ]
        refine wpAnyH_done (by kernel_rfl) ?_ _
        refine hnorm _ _ ?_
        clear hnorm hpan
        repeat clear hHeld
        try simp only [Exit.then]
        clear z0 z1 z2 ff x0 x1 x2 c0 c1 hcall
        have hX9 : X < w9.heap.size := by have := hs9.out; omega
        go_wp2_with (at_builtin; go_must (refine wpList_pushF_at rfl _ _ rfl (X + 1) (.slice o3 o4 o5) L _ _ rfl rfl (by exact hP8.out.2.1) (by omega) (by omega) ?_))
        intro v10 w10 hown10 hg10 hloc10
        have hst9 : Hid (∃ v', FoSt w10 X w1.heap.size r (ftN r s es cs (i + 1)).s v' (ftN r s es cs (i + 1)).es v10 (ftN r s es cs (i + 1)).l) := hidI ⟨_, by rw [hst2.out]; exact hP8.out.push hX9 hown10 hg10 hloc10⟩
        have hkb10 : Hid (Below X w4 w10) := hidI ((hk49.out.alloc (by omega) _).grown hg10 (by simp; omega) (fun j hj => by have := (World.ownsRow.lt hP8.out.2.1 j hj).1; omega))
        replace hown10 := hidI hown10
        replace hg10 := hidI hg10
        replace hloc10 := hidI hloc10
        go_wp2
        go_roundg (40 - (i + 1))
        case rel => exact ⟨i + 1, by omega, by go_num, hst9, hkb10⟩
        case measure => have := hi.out; omega
      have hrem : Int.tmod c (FF.length : Int) = (q : Int) := by
        have h1 := (chZ_chN cs i FF.length (Nat.pos_of_ne_zero h0.out)).1
        unfold chZ at h1
        rw [if_pos ⟨by have := hnc2.out; omega, by omega⟩, ← hcv, ← hq] at h1
        exact h1
      replace hq := hidI hq
      replace hcv := hidI hcv
      obtain ⟨u, hu⟩ : ∃ z, z = w7.drew := ⟨_, rfl⟩
      have hPu : FoSt u X w1.heap.size r sz (.slice av E.length cv) E (.slice o3 o4 o5) L := by rw [hu]; exact hP.drew
      have hku : Below X w4 u := by rw [hu]; exact below_dn hkb7 1
      have hsu : u.heap.size = w7.heap.size := by rw [hu]; rfl
      have uc0 : u.cell? ⟨b, off + q * 2, none⟩ = some (.int .i64 k) := by rw [hu]; exact c0
      have uc1 : u.cell? ⟨b, off + q * 2 + 1, none⟩ = some (.int .i64 d) := by rw [hu]; exact c1
      have ux0 : u.cell? ⟨X, 0, none⟩ = some (.int .i64 r) := by rw [hu]; exact x0
      have ux1 : u.cell? ⟨X, 1, none⟩ = some (.int .i64 sz) := by rw [hu]; exact x1
      have ux2 : u.cell? ⟨X, 2, none⟩ = some (.slice av m cv) := by rw [hu]; exact x2
      have hcall := specMerge u r sz k d (.slice av E.length cv) E hPu.read (by omega) (by omega)
      rw [← hm.out] at hcall
      obtain ⟨ME, hME⟩ : ∃ z, z = mrE r sz E (k, d) := ⟨_, rfl⟩
      obtain ⟨MS, hMS⟩ : ∃ z, z = mrS r sz E (k, d) := ⟨_, rfl⟩
      obtain ⟨OB, hOB⟩ : ∃ z, z = okM r sz E (k, d) := ⟨_, rfl⟩
      rw [← hME, ← hMS, ← hOB] at hcall
      have hst2 := hstep2.out
      rw [← hME, ← hMS] at hst2
      have hbu : b < u.heap.size := by
        rcases Nat.lt_or_ge b u.heap.size with h | h
        · exact h
        · unfold World.cell? at uc0
          rw [show u.heap[(⟨b, off + q * 2, none⟩ : Addr).block]? = none from Array.getElem?_eq_none h] at uc0
          cases uc0
      replace hst2 := hidI hst2
      replace hME := hidI hME
      replace hMS := hidI hMS
      replace hOB := hidI hOB
      replace hP := hidI hP
      replace hPu := hidI hPu
      replace hku := hidI hku
      replace hkb7 := hidI hkb7
      replace hu := hidI hu
      replace hrdc := hidI hrdc
      go_wp2_with fail
      refine hideQ (fun _ _ d _ _ h => by cases d <;> exact h) (fun Q' hnorm hpan => ?_)
      refine wp_region_held_drew (S := fun z => z.cell? ⟨b, off + q * 2, none⟩ = some (.int .i64 k) ∧ z.cell? ⟨b, off + q * 2 + 1, none⟩ = some (.int .i64 d)) (by kernel_rfl) ?_ (fun hHeld => ?_)
      · try dsimp only
        rw [← hu.out]
        ((repeat' apply And.intro) <;> assumption)
      rw [← hu.out] at hHeld ⊢
      refine take_at 1 49 (v := ?_) rfl (by kernel_rfl) (by kernel_rfl) (by kernel_rfl) (by kernel_rfl) hpan (Or.inl ⟨by rfl, ?_⟩) (by assumption) ?_
      rotate_left
      · intro w hSw; (try dsimp only at hSw); go_simp; with_reducible rfl
      simp only [Act.put, List.setIfInBounds_toArray, List.set_cons_zero, List.set_cons_succ]
      refine take_at 2 50 (v := ?_) rfl (by kernel_rfl) (by kernel_rfl) (by kernel_rfl) (by kernel_rfl) hpan (Or.inl ⟨by rfl, ?_⟩) (by assumption) ?_
      rotate_left
      · intro w hSw; (try dsimp only at hSw); go_simp; with_reducible rfl
      simp only [Act.put, List.setIfInBounds_toArray, List.set_cons_zero, List.set_cons_succ]
      refine take_at 3 51 (v := ?_) rfl (by kernel_rfl) (by kernel_rfl) (by kernel_rfl) (by kernel_rfl) hpan (Or.inl ⟨by rfl, ?_⟩) (by assumption) ?_
      rotate_left
      · intro w hSw; (try dsimp only at hSw); go_simp; with_reducible rfl
      simp only [Act.put, List.setIfInBounds_toArray, List.set_cons_zero, List.set_cons_succ]
      refine take_at 4 52 (v := ?_) rfl (by kernel_rfl) (by kernel_rfl) (by kernel_rfl) (by kernel_rfl) hpan (Or.inl ⟨by rfl, ?_⟩) (by assumption) ?_
      rotate_left
      · intro w hSw; (try dsimp only at hSw); go_simp; with_reducible rfl
      simp only [Act.put, List.setIfInBounds_toArray, List.set_cons_zero, List.set_cons_succ]
      refine wpAnyH_ready (rs := [0]) (by kernel_rfl) (by simp) ?_
      refine AllReadyH.cons rfl (fun Kz hK => ?_) AllReadyH.nil
      rw [if_pos (by rfl)]
      go_simp
      refine hK.out _ _ ?_ (fun hHeld => ?_)
      · try dsimp only
        ((repeat' apply And.intro) <;> assumption)
      clear hK
      try simp only [Act.put, List.setIfInBounds_toArray, List.set_cons_zero, List.set_cons_succ]
      refine wpAnyH_ready (rs := [5]) (by kernel_rfl) (by simp) ?_
      refine AllReadyH.cons rfl (fun Kz hK => ?_) AllReadyH.nil
      rw [if_pos (by rfl)]
      go_simp
      go_at_call 15
      (with_reducible refine hcall.mono ?_)
      rintro e w8 ⟨a8, c8, rfl, hrow8, hb8⟩
      have hs8 := hb8.size
      have hXu : X < u.heap.size := by omega
      have hP8 := hPu.out.store (sz' := MS) (E' := ME) hXu hb8 (by omega) hrow8
      have hX8 := (hb8.block X hXu).trans hPu.out.1
      have z0 := cell_of_heap hX8 0
      have z1 := cell_of_heap hX8 1
      have z2 := cell_of_heap hX8 2
      have ff := fun j => frozen_of_row w8 X j _ _ hX8
      simp at z0 z1 z2
      replace uc0 := below_cell uc0 hb8 hbu
      replace uc1 := below_cell uc1 hb8 hbu
      obtain ⟨m8, hm8⟩ : ∃ z, z = ME.length := ⟨_, rfl⟩
      rw [← hm8] at hP8 ⊢
      obtain ⟨w9, hw9⟩ : ∃ z, z = ((w8.setCell ⟨X, 0, none⟩ (.int .i64 r)).setCell ⟨X, 1, none⟩ (.int .i64 MS)).setCell ⟨X, 2, none⟩ (.slice a8 m8 c8) := ⟨_, rfl⟩
      rw [← hw9] at hP8
      have hk9 : ∀ j, j ≠ X → w9.heap[j]? = w8.heap[j]? := fun j hj => by rw [hw9]; exact heap_set3 hj
      have v0 : w9.cell? ⟨b, off + q * 2, none⟩ = some (.int .i64 k) := (World.cell?_of_block (w := w8) (a := ⟨b, off + q * 2, none⟩) (hk9 b hbX7)).trans uc0
      have v1 : w9.cell? ⟨b, off + q * 2 + 1, none⟩ = some (.int .i64 d) := (World.cell?_of_block (w := w8) (a := ⟨b, off + q * 2 + 1, none⟩) (hk9 b hbX7)).trans uc1
      have hk49 : Below X w4 w9 := by
        rw [hw9]
        exact (((hku.out.trans (hb8.mono (by omega))).setCell (p := ⟨X, 0, none⟩) (Nat.le_refl _) _).setCell (p := ⟨X, 1, none⟩) (Nat.le_refl _) _).setCell (p := ⟨X, 2, none⟩) (Nat.le_refl _) _
      have hs9 : w9.heap.size = w8.heap.size := by rw [hw9]; exact size_set3
      replace hP8 := hidI hP8
      replace hX8 := hidI hX8
      replace hrow8 := hidI hrow8
      replace hb8 := hidI hb8
      replace hm8 := hidI hm8
      replace hk9 := hidI hk9
      replace hk49 := hidI hk49
      replace hw9 := hidI hw9
      replace hs9 := hidI hs9
      clear ux0 ux1 ux2
      refine hK.out _ _ ?_ (fun hHeld => ?_)
      · try dsimp only
        ((repeat' apply And.intro) <;> assumption)
      clear hK
      try simp only [Act.put, List.setIfInBounds_toArray, List.set_cons_zero, List.set_cons_succ]
      refine take_at 6 47 (v := ?_) rfl (by kernel_rfl) (by kernel_rfl) (by kernel_rfl) (by kernel_rfl) hpan (Or.inl ⟨by rfl, ?_⟩) (by assumption) ?_
      rotate_left
      · intro w hSw; (try dsimp only at hSw); go_simp; with_reducible rfl
      simp only [Act.put, List.setIfInBounds_toArray, List.set_cons_zero, List.set_cons_succ]
      refine take_at 7 54 (v := ?_) rfl (by kernel_rfl) (by kernel_rfl) (by kernel_rfl) (by kernel_rfl) hpan (Or.inl ⟨by rfl, ?_⟩) (by assumption) ?_
      rotate_left
      · intro w hSw; (try dsimp only at hSw); go_simp; with_reducible rfl
      simp only [Act.put, List.setIfInBounds_toArray, List.set_cons_zero, List.set_cons_succ]
      refine take_at 8 55 (v := ?_) rfl (by kernel_rfl) (by kernel_rfl) (by kernel_rfl) (by kernel_rfl) hpan (Or.inl ⟨by rfl, ?_⟩) (by assumption) ?_
      rotate_left
      · intro w hSw; (try dsimp only at hSw); go_simp; with_reducible rfl
      simp only [Act.put, List.setIfInBounds_toArray, List.set_cons_zero, List.set_cons_succ]
      refine wpAnyH_ready (rs := [9]) (by kernel_rfl) (by simp) ?_
      refine AllReadyH.cons rfl (fun Kz hK => ?_) AllReadyH.nil
      rw [if_pos (by rfl)]
      go_simp
      rw [← hw9.out]
      clear uc0 uc1
      refine hK.out _ _ ?_ (fun hHeld => ?_)
      · try dsimp only
        ((repeat' apply And.intro) <;> assumption)
      clear hK
      try simp only [Act.put, List.setIfInBounds_toArray, List.set_cons_zero, List.set_cons_succ]
      refine wpAnyH_done (by kernel_rfl) ?_ _
      refine hnorm _ _ ?_
      clear hnorm hpan
      repeat clear hHeld
      try simp only [Exit.then]
      clear z0 z1 z2 ff x0 x1 x2 c0 c1 hcall
      have hX9 : X < w9.heap.size := by have := hs9.out; omega
      go_wp2_with (at_builtin; go_must (refine wpList_pushF_at rfl _ _ rfl (X + 1) (.slice o3 o4 o5) L _ _ rfl rfl (by exact hP8.out.2.1) (by omega) (by omega) ?_))
      intro v10 w10 hown10 hg10 hloc10
      have hst9 : Hid (∃ v', FoSt w10 X w1.heap.size r (ftN r s es cs (i + 1)).s v' (ftN r s es cs (i + 1)).es v10 (ftN r s es cs (i + 1)).l) := hidI ⟨_, by rw [hst2.out]; exact hP8.out.push hX9 hown10 hg10 hloc10⟩
      have hkb10 : Hid (Below X w4 w10) := hidI ((hk49.out.alloc (by omega) _).grown hg10 (by simp; omega) (fun j hj => by have := (World.ownsRow.lt hP8.out.2.1 j hj).1; omega))
      replace hown10 := hidI hown10
      replace hg10 := hidI hg10
      replace hloc10 := hidI hloc10
      go_wp2
      go_roundg (40 - (i + 1))
      case rel => exact ⟨i + 1, by omega, by go_num, hst9, hkb10⟩
      case measure => have := hi.out; omega
end Go.Proofs.Ytdeofaimgldklaa
