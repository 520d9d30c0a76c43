/- Folding on, the model: FoldInOrder (tools/hs6.py). Folding on, the model: FoldAll. Folds replayed, the model: ReplayFolds (tools/hs8.py). -/
import Derived.Test.YtgngfffmkjckdaaGreatDoorHX
import Derived.Test.YtgngfffmkjckdaaGreatDoorHMS
import Derived.Test.YtgngfffmkjckdaaGreatDoorYP
import Derived.Deep.LoopGhost
import Derived.Deep.Cut
import Derived.Test.YtgngfffmkjckdaaGreatDoorBXR
import Derived.Test.YtgngfffmkjckdaaGreatDoorYR
import Derived.Deep.CutRange
namespace Go.Proofs.YtgngfffmkjckdaaGreatDoor
open Go.RowKit
set_option linter.unusedVariables false
set_option linter.unusedSimpArgs false

/-- The model's graph in its box X, its edges in a row, the folds in a row of the call's own. -/
def FoSt (w : World) (X base : Nat) (r sz : Int) (v : Value) (E : List Ed) (o : Value) (L : List tupF) : Prop :=
  w.heap[X]? = some (.cells #[.int .i64 r, .int .i64 sz, v] 26 (0, 0)) ∧ OwnsF w (X + 1) o L ∧
    ∃ lo hi, RowS 55 3 w lo hi v E.length (flatE E) ∧ base ≤ lo ∧ lo ≤ hi ∧ hi ≤ w.heap.size ∧ (hi ≤ X ∨ X < lo) ∧ ∀ b, o.ownBlock = some b → b < lo ∨ hi ≤ b
theorem FoSt.form {w : World} {X base : Nat} {r sz : Int} {v o : Value} {E : List Ed} {L : List tupF} (h : FoSt w X base r sz v E o L) : ∃ a c, v = .slice a E.length c := by
  obtain ⟨_, _, lo, hi, ⟨_, _, ⟨h1, h2⟩ | ⟨g, off, cap, cur, h1, _⟩⟩, _⟩ := h
  · exact ⟨none, 0, by rw [h1, h2]⟩
  · exact ⟨_, _, h1⟩
theorem FoSt.read {w : World} {X base : Nat} {r sz : Int} {v o : Value} {E : List Ed} {L : List tupF} (h : FoSt w X base r sz v E o L) : ReadE w.heap.size w v E := by
  obtain ⟨_, _, lo, hi, h2, _, _, h4, _⟩ := h
  exact h2.read.mono h4
theorem FoSt.below {w w' : World} {X base : Nat} {r sz : Int} {v o : Value} {E : List Ed} {L : List tupF} (h : FoSt w X base r sz v E o L) (hX : X < w.heap.size) (hb : Below w.heap.size w w') : FoSt w' X base r sz v E o L := by
  obtain ⟨h1, h0, lo, hi, h2, h3, h3', h4, h5, h6⟩ := h
  exact ⟨by rw [hb.block X hX]; exact h1, h0.later hb (Nat.le_refl _), lo, hi, h2.below hb h4, h3, h3', Nat.le_trans h4 hb.size, h5, h6⟩
theorem FoSt.drew {w : World} {X base : Nat} {r sz : Int} {v o : Value} {E : List Ed} {L : List tupF} (h : FoSt w X base r sz v E o L) : FoSt w.drew X base r sz v E o L := h
/-- A new graph is stored. -/
theorem FoSt.store {w w' : World} {X base : Nat} {r sz sz' : Int} {v v' o : Value} {E E' : List Ed} {L : List tupF} (h : FoSt w X base r sz v E o L) (hX : X < w.heap.size) (hb : Below w.heap.size w w') (hbase : base ≤ w.heap.size) (hr : RowS 55 3 w' w.heap.size w'.heap.size v' E'.length (flatE E')) :
    FoSt (((w'.setCell ⟨X, 0, none⟩ (.int .i64 r)).setCell ⟨X, 1, none⟩ (.int .i64 sz')).setCell ⟨X, 2, none⟩ v') X base r sz' v' E' o L := by
  obtain ⟨h1, h0, lo, hi, h2, h3, h3', h4, h5, h6⟩ := h
  have hlt := World.ownsRow.lt h0
  refine ⟨set3 ((hb.block X hX).trans h1) _ _ _, ?_, w.heap.size, w'.heap.size, hr.set3_ (.inl hX), hbase, hb.size, by rw [size_set3]; exact Nat.le_refl _, .inr hX, fun b hb' => .inl (hlt b hb').2⟩
  refine (h0.later hb (Nat.le_refl _)).other fun b hb' => heap_set3 ?_
  have := (hlt b hb').1
  omega
/-- A fold is put behind the others. -/
theorem FoSt.push {w w' : World} {O : Obj} {X base : Nat} {r sz : Int} {v o o' : Value} {E : List Ed} {L L' : List tupF} (h : FoSt w X base r sz v E o L) (hX : X < w.heap.size) (ho : OwnsF w' (X + 1) o' L') (hg : (w.alloc O).grownBy w' o.ownBlock) (hloc : o'.ownBlock = o.ownBlock ∨ o'.ownBlock = some (w.heap.size + 1)) :
    FoSt w' X base r sz v E o' L' := by
  obtain ⟨h1, h0, lo, hi, h2, h3, h3', h4, h5, h6⟩ := h
  have hlt := World.ownsRow.lt h0
  have hsz := hg.size
  simp at hsz
  refine ⟨?_, ho, lo, hi, h2.keep (fun q q1 q2 => ?_), h3, h3', by omega, h5, fun b hb => ?_⟩
  · rw [hg.block X (by simp; omega) (fun e => by have := (hlt X e.symm).1; omega), heap_alloc_old _ _ hX]; exact h1
  · rw [hg.block q (by simp; omega) (fun e => by have := h6 q e.symm; omega), heap_alloc_old _ _ (by omega)]
  · rcases hloc with e | e
    · exact h6 b (e ▸ hb)
    · have := Option.some.inj (e.symm.trans hb)
      right; omega
/-- The answer, behind the last stores. -/
theorem fo_fin {w w9 : World} {X R base cap : Nat} {r s' : Int} {E : List Ed} {L : List tupF} {a : Option Addr} {o : Value} (hR : w.heap.size ≤ R) (hRX : R < base) (hRX' : R ≤ X) (hbw : Below w.heap.size w w9) (h : FoSt w9 X base r s' (.slice a E.length cap) E o L) (hl : L.length ≤ 1000) :
    LwGraphFolds w r s' E L (.returned (.tuple #[.agg #[.int .i64 r, .int .i64 s', .slice a E.length cap], o])) (((w9.setCell ⟨R, 0, none⟩ (.int .i64 r)).setCell ⟨R, 1, none⟩ (.int .i64 s')).setCell ⟨R, 2, none⟩ (.slice a E.length cap)) := by
  obtain ⟨h1, h0, lo, hi, h2, h3, h3', h4, h5, h6⟩ := h
  have hrow := OwnsS.row h0 (by omega)
  have hrowg : RowS 55 3 (((w9.setCell ⟨R, 0, none⟩ (.int .i64 r)).setCell ⟨R, 1, none⟩ (.int .i64 s')).setCell ⟨R, 2, none⟩ (.slice a E.length cap)) lo hi (.slice a E.length cap) E.length (flatE E) := RowS.set3_ h2 (.inl (by omega))
  have hrowf : RowS 37 2 (((w9.setCell ⟨R, 0, none⟩ (.int .i64 r)).setCell ⟨R, 1, none⟩ (.int .i64 s')).setCell ⟨R, 2, none⟩ (.slice a E.length cap)) (X + 1) w9.heap.size o L.length (flatF L) := RowS.set3_ hrow (.inl (by omega))
  have hbe := below_set3 (x0 := .int .i64 r) (x1 := .int .i64 s') (x2 := .slice a E.length cap) hbw hR
  rcases h0.2 with ⟨rfl, h00⟩ | ⟨g, cap', cur, rfl, hg1, hg2, _⟩
  · exact ⟨a, cap, _, lo, hi, w.heap.size, w.heap.size, rfl, ⟨by omega, h3', by rw [size_set3]; exact h4, Nat.le_refl _, Nat.le_refl _, by rw [size_set3]; have := hbw.size; omega, by omega⟩, hrowg, ⟨by rw [flatF_length], by omega, .inl ⟨rfl, h00⟩⟩, hbe⟩
  · have hgl := (World.ownsRow.lt h0 g rfl).2
    have hrow1 : RowS 37 2 (((w9.setCell ⟨R, 0, none⟩ (.int .i64 r)).setCell ⟨R, 1, none⟩ (.int .i64 s')).setCell ⟨R, 2, none⟩ (.slice a E.length cap)) g (g + 1) (.slice (some ⟨g, 0, none⟩) L.length cap') L.length (flatF L) := by
      obtain ⟨q1, q2, ⟨q3, q4⟩ | ⟨g', off', cap2, cur', q3, q4, q5, q6, q7, q8⟩⟩ := hrowf
      · cases q3
      · have e := q3
        injection e with e1 _ _
        injection e1 with e1
        injection e1 with e1 _ _
        subst e1
        exact ⟨q1, q2, .inr ⟨g, off', cap2, cur', q3, Nat.le_refl _, by omega, q6, q7, q8⟩⟩
    exact ⟨a, cap, _, lo, hi, g, g + 1, rfl, ⟨by omega, h3', by rw [size_set3]; exact h4, by omega, by omega, by rw [size_set3]; omega, by have := h6 g rfl; omega⟩, hrowg, hrow1, hbe⟩
/-- The states on the way, whether the graph is valid or not. -/
def ftN (r s : Int) (es : List Ed) (cs : List Int) (i : Nat) : FoldSt := if isGr r s es = true then orN r s es cs i else ⟨s, es, []⟩
theorem ft_len (r s : Int) (es : List Ed) (cs : List Int) (i : Nat) : (ftN r s es cs i).es.length ≤ es.length ∧ (ftN r s es cs i).l.length ≤ i := by
  unfold ftN
  split
  · exact orN_len r s es cs i
  · exact ⟨Nat.le_refl _, by simp⟩
theorem ft_fo (r s : Int) (es : List Ed) (cs : List Int) : foS r s es cs = (ftN r s es cs 40).s ∧ foE r s es cs = (ftN r s es cs 40).es ∧ foL r s es cs = (ftN r s es cs 40).l := by
  unfold foS foE foL ftN
  split <;> exact ⟨rfl, rfl, rfl⟩
set_option maxRecDepth 100000 in
set_option maxHeartbeats 6400000 in
theorem specInOrder (w : World) (r s : Int) (v vc : Value) (es : List Ed) (cs : List Int) (h : ReadE w.heap.size w v es) (hs : -9223372036854775808 ≤ s ∧ s ≤ 9223372036854775807) (hl : es.length ≤ 1048576) (hc : ReadI w.heap.size w vc cs) (hcl : cs.length ≤ 100000000) :
    Calls Tryz.prog 25 #[.agg #[.int .i64 r, .int .i64 s, v], vc] w (LwGraphFolds w r (foS r s es cs) (foE r s es cs) (foL r s es cs)) := by
  obtain ⟨a, cap, rfl, hnc⟩ := h.form
  obtain ⟨n, hn⟩ : ∃ n, n = es.length := ⟨_, rfl⟩
  rw [← hn] at h
  rw [← hn] at hl hnc ⊢
  obtain ⟨wa, hwa⟩ : ∃ z, z = w.alloc (.cells #[.int .i64 r, .int .i64 s, .slice a n cap] 26) := ⟨_, rfl⟩
  obtain ⟨w1, hw1⟩ : ∃ z, z = wa.alloc (.cells #[.int .i64 0, .int .i64 0, .slice none 0 0] 26) := ⟨_, rfl⟩
  have hww : (w.alloc (.cells #[.int .i64 r, .int .i64 s, .slice a n cap] 26)).alloc (.cells #[.int .i64 0, .int .i64 0, .slice none 0 0] 26) = w1 := by rw [hw1, hwa]
  have hb1 : Below w.heap.size w w1 := by rw [← hww]; exact ((Below.refl _ _).alloc (Nat.le_refl _) _).alloc (by simp) _
  have hs1 : w1.heap.size = w.heap.size + 1 + 1 := by rw [← hww]; simp
  have hg := heap_box w (.cells #[.int .i64 r, .int .i64 s, .slice a n cap] 26) (.cells #[.int .i64 0, .int .i64 0, .slice none 0 0] 26)
  have hR := heap_alloc_new (w.alloc (.cells #[.int .i64 r, .int .i64 s, .slice a n cap] 26)) (.cells #[.int .i64 0, .int .i64 0, .slice none 0 0] 26)
  rw [hww] at hg hR
  rw [show (w.alloc (.cells #[.int .i64 r, .int .i64 s, .slice a n cap] 26)).heap.size = w.heap.size + 1 by simp] at hR
  have g0 : w1.cell? ⟨w.heap.size, 0, none⟩ = some (.int .i64 r) := by simpa using cell_of_heap hg 0
  have g1 : w1.cell? ⟨w.heap.size, 1, none⟩ = some (.int .i64 s) := by simpa using cell_of_heap hg 1
  have g2 : w1.cell? ⟨w.heap.size, 2, none⟩ = some (.slice a n cap) := by simpa using cell_of_heap hg 2
  have hrd1 := (h.below hb1).mono hb1.size
  rw [hn] at hrd1
  have hcopy := specCopy w1 r s _ es hrd1 (by omega)
  rw [← hn] at hcopy hrd1
  obtain ⟨ZS, hZS⟩ : ∃ B, B = foS r s es cs := ⟨_, rfl⟩
  obtain ⟨ZE, hZE⟩ : ∃ B, B = foE r s es cs := ⟨_, rfl⟩
  obtain ⟨ZL, hZL⟩ : ∃ B, B = foL r s es cs := ⟨_, rfl⟩
  obtain ⟨hf1, hf2, hf3⟩ := ft_fo r s es cs
  rw [← hZS] at hf1
  rw [← hZE] at hf2
  rw [← hZL] at hf3
  rw [← hZS, ← hZE, ← hZL]
  obtain ⟨B, hB⟩ : ∃ B, B = isGr r s es := ⟨_, rfl⟩
  have hisx := fun (W : World) (hr : ReadE W.heap.size W (.slice a es.length cap) es) => specIsGr W r s _ es hr hs (by omega)
  rw [← hn, ← hB] at hisx
  have hRk : ∀ W, Below w1.heap.size w1 W → W.heap[w.heap.size + 1]? = some (.cells #[.int .i64 0, .int .i64 0, .slice none 0 0] 26 (0, 0)) := fun W hW => by rw [hW.block _ (by omega)]; exact hR
  have hc0 := hidI hc
  obtain ⟨_, ac, cc0, rfl, _, _⟩ := hc
  obtain ⟨nc, hnc2⟩ : ∃ z, z = cs.length := ⟨_, rfl⟩
  rw [← hnc2] at hcl hc0 ⊢
  replace hisx := hidI hisx
  replace hRk := hidI hRk
  replace hww := hidI hww
  replace hn := hidI hn
  replace h := hidI h
  replace hg := hidI hg
  replace hR := hidI hR
  replace hs1 := hidI hs1
  replace hZS := hidI hZS
  replace hZE := hidI hZE
  replace hZL := hidI hZL
  replace hf1 := hidI hf1
  replace hf2 := hidI hf2
  replace hf3 := hidI hf3
  replace hwa := hidI hwa
  replace hw1 := hidI hw1
  replace hrd1 := hidI hrd1
  replace hB := hidI hB
  replace hnc2 := hidI hnc2
  go_enter Tryz.func25, Tryz.ntmps25
  go_upto_region 1 with fail
  rw [hww.out]
  go_wp2_with fail
  refine hcopy.mono ?_
  rintro e w2 ⟨ca, cc, rfl, hrow2, hb2⟩
  rw [← hn.out]
  clear hcopy
  have hlt1 : w.heap.size + 1 < w1.heap.size := by have := hs1.out; omega
  have hb2l : w1.heap.size ≤ w2.heap.size := hb2.size
  replace g0 := below_cell g0 hb2 (by omega)
  replace g1 := below_cell g1 hb2 (by omega)
  replace g2 := below_cell g2 hb2 (by omega)
  obtain ⟨w3, hw3⟩ : ∃ z, z = w2.alloc (.cells #[.int .i64 r, .int .i64 s, .slice ca n cc] 26) := ⟨_, rfl⟩
  have hb3 : Below w2.heap.size w2 w3 := by rw [hw3]; exact (Below.refl _ _).alloc (Nat.le_refl _) _
  have hs3 : w3.heap.size = w2.heap.size + 1 := by rw [hw3]; simp
  have hk3 : w3.heap[w2.heap.size]? = some (.cells #[.int .i64 r, .int .i64 s, .slice ca n cc] 26 (0, 0)) := by rw [hw3]; exact heap_alloc_new _ _
  obtain ⟨X, hX⟩ : ∃ X, X = w2.heap.size := ⟨_, rfl⟩
  rw [← hX] at hk3 hs3
  obtain ⟨w4, hw4⟩ : ∃ z, z = w3.alloc (.cells #[] 37) := ⟨_, rfl⟩
  have hb4 : Below w3.heap.size w3 w4 := by rw [hw4]; exact (Below.refl _ _).alloc (Nat.le_refl _) _
  have hown4 : OwnsF w4 w3.heap.size (.slice (some ⟨w3.heap.size, 0, none⟩) 0 0) [] := by rw [hw4]; exact OwnsF.litF w3
  have hb24 := hb3.trans (hb4.mono (by omega))
  have hb14 : Below w1.heap.size w1 w4 := hb2.trans (hb24.mono hb2l)
  have hb04 : Below w.heap.size w w4 := hb1.trans (hb14.mono (by omega))
  replace g0 := below_cell g0 hb24 (by omega)
  replace g1 := below_cell g1 hb24 (by omega)
  replace g2 := below_cell g2 hb24 (by omega)
  have hs34 : X + 1 < w4.heap.size := by have h1 : w4.heap.size = w3.heap.size + 1 := by { rw [hw4]; simp }; omega
  rw [hs3] at hown4
  have hst0 : Hid (∃ v', FoSt w4 X w1.heap.size r (ftN r s es cs 0).s v' (ftN r s es cs 0).es (.slice (some ⟨X + 1, 0, none⟩) 0 0) (ftN r s es cs 0).l) := hidI ⟨.slice ca n cc, by
    have e : ftN r s es cs 0 = ⟨s, es, []⟩ := by unfold ftN; split <;> rfl
    rw [e]
    have hrow := hrow2
    refine ⟨(hb4.block X (by omega)).trans hk3, hown4, w1.heap.size, w2.heap.size, ?_, Nat.le_refl _, hb2l, by have := hb24.size; omega, .inl (by omega), fun b hb => ?_⟩
    · have h5 := hrow.below hb24 (Nat.le_refl _)
      have e2 := hn.out
      rw [e2]; exact h5
    · have := Option.some.inj hb
      right; show w2.heap.size ≤ b
      have e3 : X + 1 = b := this
      omega⟩
  have hkb0 : Hid (Below X w4 w4) := hidI (Below.refl _ _)
  have hbX : w.heap.size + 1 < X := by omega
  have hrd4 : ReadE w.heap.size w4 (.slice a n cap) es := h.out.below hb04
  have hs3' : w3.heap.size = X + 1 := hs3
  replace hs3 := hidI hs3
  replace hk3 := hidI hk3
  replace hb3 := hidI hb3
  replace hb4 := hidI hb4
  replace hb2 := hidI hb2
  replace hb24 := hidI hb24
  replace hb14 := hidI hb14
  replace hb04 := hidI hb04
  replace hown4 := hidI hown4
  replace hrow2 := hidI hrow2
  replace hrd4 := hidI hrd4
  replace hs3' := hidI hs3'
  go_upto_region 2 with fail
  rw [← hw3]
  replace hw3 := hidI hw3
  rw [← hX]
  have hXe := hidI hX
  have hX2 : w2.heap.size ≤ X ∧ X ≤ w2.heap.size := by omega
  clear hX
  go_upto_region 3 with fail
  rw [← hw4]
  replace hw4 := hidI hw4
  rw [hs3'.out]
  clear g0 g1
  go_wp2
  go_loopg [7, 8] 40 (fun g o ii wr => ∃ i : Nat, i + g = 40 ∧ ii = .int .i64 (i : Int) ∧ Hid (∃ v', FoSt wr X w1.heap.size r (ftN r s es cs i).s v' (ftN r s es cs i).es o (ftN r s es cs i).l) ∧ Hid (Below X w4 wr))
  case atStart => exact ⟨0, by omega, by simp, hst0, hkb0⟩
  case round =>
    clear hst0 hkb0
    obtain ⟨i, hi, rfl, hst, hkb⟩ := hrel
    obtain ⟨v6, hP⟩ := hst.out
    obtain ⟨T, hT⟩ : ∃ T, T = ftN r s es cs i := ⟨_, rfl⟩
    obtain ⟨hTl, hTi⟩ := ft_len r s es cs i
    rw [← hT] at hP hTl hTi
    obtain ⟨E, hE⟩ : ∃ E, E = T.es := ⟨_, rfl⟩
    obtain ⟨L, hL⟩ : ∃ E, E = T.l := ⟨_, rfl⟩
    obtain ⟨sz, hsz⟩ : ∃ E, E = T.s := ⟨_, rfl⟩
    rw [← hE, ← hL, ← hsz] at hP
    rw [← hE] at hTl
    rw [← hL] at hTi
    obtain ⟨av, cv, rfl⟩ := hP.form
    obtain ⟨o3, o4, o5, rfl⟩ := hP.2.1.form3
    have p2 := below_cell g2 hkb.out (by omega)
    have hXr : X < wr.heap.size := by have := hkb.out.size; omega
    have hbr : Below w.heap.size w wr := hb04.out.trans (hkb.out.mono (by omega))
    have hbr1 : Below w1.heap.size w1 wr := hb14.out.trans (hkb.out.mono (by omega))
    obtain ⟨m, hm⟩ : ∃ m, m = E.length := ⟨_, rfl⟩
    have hbox := hP.1
    have x0 := cell_of_heap hbox 0
    have x1 := cell_of_heap hbox 1
    have x2 := cell_of_heap hbox 2
    simp at x0 x1 x2
    rw [← hm] at x2
    replace hm := hidI hm
    replace hT := hidI hT
    replace hE := hidI hE
    replace hL := hidI hL
    replace hsz := hidI hsz
    replace hi := hidI hi
    replace hbox := hidI hbox
    clear hst
    by_cases hlt : i < 40
    case neg =>
      obtain rfl : i = 40 := by have := hi.out; omega
      have hki : ¬ ((40 : Nat) : Int) < 40 := by omega
      have hZZ1 : ZS = sz := by rw [hf1.out, hsz.out, hT.out]
      have hZZ2 : ZE = E := by rw [hf2.out, hE.out, hT.out]
      have hZZ3 : ZL = L := by rw [hf3.out, hL.out, hT.out]
      have hRx := hRk.out wr hbr1
      have y0 := cell_of_heap hRx 0
      have y1 := cell_of_heap hRx 1
      have y2 := cell_of_heap hRx 2
      have f2 := fun j => frozen_of_row wr (w.heap.size + 1) j _ _ hRx
      simp at y0 y1 y2
      have hfin := fo_fin (w := w) (w9 := wr) (X := X) (R := w.heap.size + 1) (base := w1.heap.size) (cap := cv) (r := r) (s' := sz) (E := E) (L := L) (a := av) (by omega) (by omega) (by omega) hbr hP (by omega)
      rw [← hm.out] at hfin
      have hset := set3 hRx (.int .i64 r) (.int .i64 sz) (.slice av m cv)
      replace hfin := hidI hfin
      replace hset := hidI hset
      replace hRx := hidI hRx
      replace hP := hidI hP
      replace hbr := hidI hbr
      replace hbr1 := hidI hbr1
      replace hZZ1 := hidI hZZ1
      replace hZZ2 := hidI hZZ2
      replace hZZ3 := hidI hZZ3
      go_wp2
      (try simp only [Exit.inBlock, Exit.then])
      refine ret_cell2 (x := .slice o3 o4 o5) rfl rfl rfl hset.out Tryz.underlying26 sizeGraph ?_
      rw [hZZ1.out, hZZ2.out, hZZ3.out]
      exact hfin.out
    have hki : (i : Int) < 40 := by omega
    have p0 := fun j => (hkb.out.block w.heap.size (by omega))
    have hgx : wr.heap[w.heap.size]? = some (.cells #[.int .i64 r, .int .i64 s, .slice a n cap] 26 (0, 0)) := by
      rw [hbr1.block w.heap.size (by omega)]; exact hg.out
    have q0 := cell_of_heap hgx 0
    have q1 := cell_of_heap hgx 1
    simp at q0 q1
    have his := hisx.out wr ((hrd4.out.below (hkb.out.mono (by omega))).mono (by have := hbr.size; omega))
    replace hgx := hidI hgx
    clear p0
    replace hbr := hidI hbr
    replace hbr1 := hidI hbr1
    replace hP := hidI hP
    go_wp2_with fail
    refine his.mono ?_
    rintro e w6 ⟨rfl, hb6⟩
    clear his
    have hP0 := hP.out.below hXr hb6
    clear hP
    have hP := hP0
    clear hP0
    have hs6 := hb6.size
    replace x0 := below_cell x0 hb6 hXr
    replace x1 := below_cell x1 hb6 hXr
    replace x2 := below_cell x2 hb6 hXr
    have hkb6 : Below X w4 w6 := hkb.out.trans (hb6.mono (by omega))
    have hbr6 : Below w.heap.size w w6 := hbr.out.trans (hb6.mono hbr.out.size)
    have hbr16 : Below w1.heap.size w1 w6 := hbr1.out.trans (hb6.mono hbr1.out.size)
    clear hbr hbr1
    have hbr := hbr6
    have hbr1 := hbr16
    clear hbr6 hbr16 p2 q0 q1
    cases hBB : B with
    | false =>
      subst hBB
      have hbf : isGr r s es = false := hB.out.symm
      have hft : ∀ j, ftN r s es cs j = ⟨s, es, []⟩ := fun j => by unfold ftN; rw [if_neg (by rw [hbf]; simp)]
      have hZZ1 : ZS = sz := by rw [hf1.out, hsz.out, hT.out, hft, hft]
      have hZZ2 : ZE = E := by rw [hf2.out, hE.out, hT.out, hft, hft]
      have hZZ3 : ZL = L := by rw [hf3.out, hL.out, hT.out, hft, hft]
      replace hB := hidI hB.out
      replace hkb6 := hidI hkb6
      replace hb6 := hidI hb6
      replace hbf := hidI hbf
      replace hft := hidI hft
      have hRx := hRk.out w6 hbr1
      have y0 := cell_of_heap hRx 0
      have y1 := cell_of_heap hRx 1
      have y2 := cell_of_heap hRx 2
      have f2 := fun j => frozen_of_row w6 (w.heap.size + 1) j _ _ hRx
      simp at y0 y1 y2
      have hfin := fo_fin (w := w) (w9 := w6) (X := X) (R := w.heap.size + 1) (base := w1.heap.size) (cap := cv) (r := r) (s' := sz) (E := E) (L := L) (a := av) (by omega) (by omega) (by omega) hbr hP (by omega)
      rw [← hm.out] at hfin
      have hset := set3 hRx (.int .i64 r) (.int .i64 sz) (.slice av m cv)
      replace hfin := hidI hfin
      replace hset := hidI hset
      replace hRx := hidI hRx
      replace hP := hidI hP
      replace hbr := hidI hbr
      replace hbr1 := hidI hbr1
      replace hZZ1 := hidI hZZ1
      replace hZZ2 := hidI hZZ2
      replace hZZ3 := hidI hZZ3
      go_wp2
      (try simp only [Exit.inBlock, Exit.then])
      refine ret_cell2 (x := .slice o3 o4 o5) rfl rfl rfl hset.out Tryz.underlying26 sizeGraph ?_
      rw [hZZ1.out, hZZ2.out, hZZ3.out]
      exact hfin.out
    | true =>
      subst hBB
      have hgr := hidI hB.out.symm
      replace hB := hidI hB.out
      have hTo : T = orN r s es cs i := by rw [hT.out]; unfold ftN; rw [if_pos hgr.out]
      have hgi : isGr r sz E = true := by rw [hsz.out, hE.out, hTo]; exact or_gr hgr.out i
      have hEl : E.length ≤ 120 := (isGr_iff.1 hgi).2.2.2.2.2
      have hszb : 1 ≤ sz ∧ sz ≤ 40 := ⟨(isGr_iff.1 hgi).2.2.2.1, (isGr_iff.1 hgi).2.2.2.2.1⟩
      have hpf := specFolds w6 r sz _ E hP.read (by omega)
      obtain ⟨FF, hFF⟩ : ∃ z, z = foldsF E := ⟨_, rfl⟩
      rw [← hFF, ← hm.out] at hpf
      have hFl : FF.length ≤ 28800 := by
        have h1 := foldsF_length E
        have : E.length * E.length ≤ 120 * 120 := Nat.mul_le_mul hEl hEl
        rw [hFF]; omega
      have hmem : ∀ q, q < FF.length → okM r sz E (FF.getD q zeroF) = true := fun q hq => by
        rw [hFF] at hq ⊢
        exact folds_ok hgi (getF_mem hq)
      replace hmem := hidI hmem
      replace hTo := hidI hTo
      replace hgi := hidI hgi
      replace hFF := hidI hFF
      replace hP := hidI hP
      replace hbr := hidI hbr
      replace hbr1 := hidI hbr1
      replace hkb6 := hidI hkb6
      replace hb6 := hidI hb6
      go_wp2_with fail
      refine hpf.mono ?_
      rintro e w7 ⟨aL, cL, rfl, hrow7, hb7⟩
      clear hpf
      have hX6 : X < w6.heap.size := by omega
      have hs7 := hb7.size
      have hP0 := hP.out.below hX6 hb7
      clear hP
      have hP := hP0
      clear hP0
      replace x0 := below_cell x0 hb7 hX6
      replace x1 := below_cell x1 hb7 hX6
      replace x2 := below_cell x2 hb7 hX6
      have hkb7 : Below X w4 w7 := hkb6.out.trans (hb7.mono (by omega))
      have hbr7 : Below w.heap.size w w7 := hbr.out.trans (hb7.mono hbr.out.size)
      have hbr17 : Below w1.heap.size w1 w7 := hbr1.out.trans (hb7.mono hbr1.out.size)
      clear hbr hbr1
      have hbr := hbr7
      have hbr1 := hbr17
      clear hbr7 hbr17
      by_cases h0 : FF.length = 0
      case pos =>
        have t0 : ((FF.length : Int) == 0) = true := by rw [beq_iff_eq]; omega
        have hor : orN r s es cs 40 = T := by
          have := orN_stop r s es cs (i := i) (by rw [← hTo.out, ← hE.out, ← hFF.out]; exact h0) (40 - i)
          rw [show i + (40 - i) = 40 by omega] at this
          rw [this, hTo.out]
        have hft : ftN r s es cs 40 = T := by unfold ftN; rw [if_pos hgr.out]; exact hor
        have hZZ1 : ZS = sz := by rw [hf1.out, hsz.out, hft]
        have hZZ2 : ZE = E := by rw [hf2.out, hE.out, hft]
        have hZZ3 : ZL = L := by rw [hf3.out, hL.out, hft]
        replace h0 := hidI h0
        replace hor := hidI hor
        replace hft := hidI hft
        replace hkb7 := hidI hkb7
        replace hb7 := hidI hb7
        replace hrow7 := hidI hrow7
        have hRx := hRk.out w7 hbr1
        have y0 := cell_of_heap hRx 0
        have y1 := cell_of_heap hRx 1
        have y2 := cell_of_heap hRx 2
        have f2 := fun j => frozen_of_row w7 (w.heap.size + 1) j _ _ hRx
        simp at y0 y1 y2
        have hfin := fo_fin (w := w) (w9 := w7) (X := X) (R := w.heap.size + 1) (base := w1.heap.size) (cap := cv) (r := r) (s' := sz) (E := E) (L := L) (a := av) (by omega) (by omega) (by omega) hbr hP (by omega)
        rw [← hm.out] at hfin
        have hset := set3 hRx (.int .i64 r) (.int .i64 sz) (.slice av m cv)
        replace hfin := hidI hfin
        replace hset := hidI hset
        replace hRx := hidI hRx
        replace hP := hidI hP
        replace hbr := hidI hbr
        replace hbr1 := hidI hbr1
        replace hZZ1 := hidI hZZ1
        replace hZZ2 := hidI hZZ2
        replace hZZ3 := hidI hZZ3
        go_wp2
        (try simp only [Exit.inBlock, Exit.then])
        refine ret_cell2 (x := .slice o3 o4 o5) rfl rfl rfl hset.out Tryz.underlying26 sizeGraph ?_
        rw [hZZ1.out, hZZ2.out, hZZ3.out]
        exact hfin.out
      have t0 : ((FF.length : Int) == 0) = false := by rw [beq_eq_false_iff_ne]; omega
      have hrd7 : ReadF w7.heap.size w7 (.slice aL FF.length cL) FF := hrow7.read
      have hcq := chN_lt (cs := cs) (i := i) (n := FF.length) (Nat.pos_of_ne_zero h0)
      obtain ⟨q, hq⟩ : ∃ q, q = chN cs i FF.length := ⟨_, rfl⟩
      rw [← hq] at hcq
      have hoff7 : ∃ b off, aL = some ⟨b, off, none⟩ ∧ w6.heap.size ≤ b ∧ w7.cell? ⟨b, off + q * 2, none⟩ = some (.int .i64 (FF.getD q zeroF).1) ∧ w7.cell? ⟨b, off + q * 2 + 1, none⟩ = some (.int .i64 (FF.getD q zeroF).2) := by
        obtain ⟨b, off, haL, hbB, c0, c1⟩ := ReadF.cells hrd7 q hcq
        refine ⟨b, off, haL, ?_, c0, c1⟩
        obtain ⟨_, _, ⟨e1, _⟩ | ⟨g', off', cap2, cur', e1, e2, _⟩⟩ := hrow7
        · rw [haL] at e1; cases e1
        · rw [haL] at e1
          injection e1 with e1 _ _
          injection e1 with e1
          injection e1 with e1 _ _
          omega
      obtain ⟨b, off, rfl, hb6l, c0, c1⟩ := hoff7
      have hfo := hmem.out q hcq
      obtain ⟨⟨k, d⟩, hkd⟩ : ∃ f, f = FF.getD q zeroF := ⟨_, rfl⟩
      rw [← hkd] at c0 c1 hfo
      simp only at c0 c1
      have hstep2 : ftN r s es cs (i + 1) = ⟨mrS r sz E (k, d), mrE r sz E (k, d), L ++ [(k, d)]⟩ := by
        have := or_step (r := r) (s := s) (es := es) (cs := cs) (i := i) (by rw [← hTo.out, ← hE.out, ← hFF.out]; exact h0)
        unfold ftN
        rw [if_pos hgr.out, this, ← hTo.out, ← hE.out, ← hL.out, ← hsz.out, ← hFF.out, ← hq, ← hkd]
      have hbX7 : b ≠ X := by omega
      have hqi : (q : Int) < (FF.length : Int) := by omega
      have hqw : IntKind.i64.wrap (q : Int) = (q : Int) := IntWalk.i64_in _ (by omega)
      have hX7 : X < w7.heap.size := by omega
      have hrdc := hc0.out.below hbr
      replace hb7 := hidI hb7
      replace hrow7 := hidI hrow7
      replace hrd7 := hidI hrd7
      replace hstep2 := hidI hstep2
      replace hfo := hidI hfo
      replace hkd := hidI hkd
      replace hbr := hidI hbr
      replace hbr1 := hidI hbr1
      replace hcq := hidI hcq
      replace h0 := hidI h0
      have hxx0 := x0
      have hxx1 := x1
      have hxx2 := x2
      by_cases hci : i < nc
      case neg =>
        have hcii : ¬ (i : Int) < (nc : Int) := by omega
        have hq0 : q = 0 := by rw [hq]; unfold chN; rw [if_neg (fun h => hci (by have := hnc2.out; omega))]
        subst hq0
        replace hq := hidI hq
        simp only [Nat.zero_mul, Nat.add_zero] at c0 c1
        have hqi0 : (0 : Int) < (FF.length : Int) := by omega
        have hqn0 : 0 < FF.length := by omega
        obtain ⟨u, hu⟩ : ∃ z, z = w7.drew := ⟨_, rfl⟩
        have hPu : FoSt u X w1.heap.size r sz (.slice av E.length cv) E (.slice o3 o4 o5) L := by rw [hu]; exact hP.drew
        have hku : Below X w4 u := by rw [hu]; exact below_dn hkb7 1
        have hsu : u.heap.size = w7.heap.size := by rw [hu]; rfl
        have uc0 : u.cell? ⟨b, off, none⟩ = some (.int .i64 k) := by rw [hu]; exact c0
        have uc1 : u.cell? ⟨b, off + 1, none⟩ = some (.int .i64 d) := by rw [hu]; exact c1
        have ux0 : u.cell? ⟨X, 0, none⟩ = some (.int .i64 r) := by rw [hu]; exact x0
        have ux1 : u.cell? ⟨X, 1, none⟩ = some (.int .i64 sz) := by rw [hu]; exact x1
        have ux2 : u.cell? ⟨X, 2, none⟩ = some (.slice av m cv) := by rw [hu]; exact x2
        have hcall := specMerge u r sz k d (.slice av E.length cv) E hPu.read (by omega) (by omega)
        rw [← hm.out] at hcall
        obtain ⟨ME, hME⟩ : ∃ z, z = mrE r sz E (k, d) := ⟨_, rfl⟩
        obtain ⟨MS, hMS⟩ : ∃ z, z = mrS r sz E (k, d) := ⟨_, rfl⟩
        obtain ⟨OB, hOB⟩ : ∃ z, z = okM r sz E (k, d) := ⟨_, rfl⟩
        rw [← hME, ← hMS, ← hOB] at hcall
        have hst2 := hstep2.out
        rw [← hME, ← hMS] at hst2
        have hbu : b < u.heap.size := by
          rcases Nat.lt_or_ge b u.heap.size with h | h
          · exact h
          · unfold World.cell? at uc0
            rw [show u.heap[(⟨b, off, none⟩ : Addr).block]? = none from Array.getElem?_eq_none h] at uc0
            cases uc0
        replace hst2 := hidI hst2
        replace hME := hidI hME
        replace hMS := hidI hMS
        replace hOB := hidI hOB
        replace hP := hidI hP
        replace hPu := hidI hPu
        replace hku := hidI hku
        replace hkb7 := hidI hkb7
        replace hu := hidI hu
        replace hrdc := hidI hrdc
        go_wp2_with fail
        refine hideQ (fun _ _ d _ _ h => by cases d <;> exact h) (fun Q' hnorm hpan => ?_)
        refine wp_region_held_drew (S := fun z => z.cell? ⟨b, off, none⟩ = some (.int .i64 k) ∧ z.cell? ⟨b, off + 1, none⟩ = some (.int .i64 d)) (by kernel_rfl) ?_ (fun hHeld => ?_)
        · try dsimp only
          rw [← hu.out]
          ((repeat' apply And.intro) <;> assumption)
        rw [← hu.out] at hHeld ⊢
        refine tk 1 49 ?_
        refine tk 2 50 ?_
        refine tk 3 51 ?_
        refine tk 4 52 ?_
        refine wpAnyH_ready (rs := [0]) (by kernel_rfl) (by simp) ?_
        refine AllReadyH.cons rfl (fun Kz hK => ?_) AllReadyH.nil
        rw [if_pos (by rfl)]
        go_simp
        refine hK.out _ _ ?_ (fun hHeld => ?_)
        · try dsimp only
          ((repeat' apply And.intro) <;> assumption)
        clear hK
        try simp only [Act.put, List.setIfInBounds_toArray, List.set_cons_zero, List.set_cons_succ]
        refine wpAnyH_ready (rs := [5]) (by kernel_rfl) (by simp) ?_
        refine AllReadyH.cons rfl (fun Kz hK => ?_) AllReadyH.nil
        rw [if_pos (by rfl)]
        go_simp
        go_at_call 18
        (with_reducible refine hcall.mono ?_)
        rintro e w8 ⟨a8, c8, rfl, hrow8, hb8⟩
        have hs8 := hb8.size
        have hXu : X < u.heap.size := by omega
        have hP8 := hPu.out.store (sz' := MS) (E' := ME) hXu hb8 (by omega) hrow8
        have hX8 := (hb8.block X hXu).trans hPu.out.1
        have z0 := cell_of_heap hX8 0
        have z1 := cell_of_heap hX8 1
        have z2 := cell_of_heap hX8 2
        have ff := fun j => frozen_of_row w8 X j _ _ hX8
        simp at z0 z1 z2
        replace uc0 := below_cell uc0 hb8 hbu
        replace uc1 := below_cell uc1 hb8 hbu
        obtain ⟨m8, hm8⟩ : ∃ z, z = ME.length := ⟨_, rfl⟩
        rw [← hm8] at hP8 ⊢
        obtain ⟨w9, hw9⟩ : ∃ z, z = ((w8.setCell ⟨X, 0, none⟩ (.int .i64 r)).setCell ⟨X, 1, none⟩ (.int .i64 MS)).setCell ⟨X, 2, none⟩ (.slice a8 m8 c8) := ⟨_, rfl⟩
        rw [← hw9] at hP8
        have hk9 : ∀ j, j ≠ X → w9.heap[j]? = w8.heap[j]? := fun j hj => by rw [hw9]; exact heap_set3 hj
        have v0 : w9.cell? ⟨b, off, none⟩ = some (.int .i64 k) := (World.cell?_of_block (w := w8) (a := ⟨b, off, none⟩) (hk9 b hbX7)).trans uc0
        have v1 : w9.cell? ⟨b, off + 1, none⟩ = some (.int .i64 d) := (World.cell?_of_block (w := w8) (a := ⟨b, off + 1, none⟩) (hk9 b hbX7)).trans uc1
        have hk49 : Below X w4 w9 := by
          rw [hw9]
          exact (((hku.out.trans (hb8.mono (by omega))).setCell (p := ⟨X, 0, none⟩) (Nat.le_refl _) _).setCell (p := ⟨X, 1, none⟩) (Nat.le_refl _) _).setCell (p := ⟨X, 2, none⟩) (Nat.le_refl _) _
        have hs9 : w9.heap.size = w8.heap.size := by rw [hw9]; exact size_set3
        replace hP8 := hidI hP8
        replace hX8 := hidI hX8
        replace hrow8 := hidI hrow8
        replace hb8 := hidI hb8
        replace hm8 := hidI hm8
        replace hk9 := hidI hk9
        replace hk49 := hidI hk49
        replace hw9 := hidI hw9
        replace hs9 := hidI hs9
        clear ux0 ux1 ux2
        refine hK.out _ _ ?_ (fun hHeld => ?_)
        · try dsimp only
          ((repeat' apply And.intro) <;> assumption)
        clear hK
        try simp only [Act.put, List.setIfInBounds_toArray, List.set_cons_zero, List.set_cons_succ]
        refine tk 6 47 ?_
        refine tk 7 54 ?_
        refine tk 8 55 ?_
        refine wpAnyH_ready (rs := [9]) (by kernel_rfl) (by simp) ?_
        refine AllReadyH.cons rfl (fun Kz hK => ?_) AllReadyH.nil
        rw [if_pos (by rfl)]
        go_simp
        rw [← hw9.out]
        clear uc0 uc1
        refine hK.out _ _ ?_ (fun hHeld => ?_)
        · try dsimp only
          ((repeat' apply And.intro) <;> assumption)
        clear hK
        try simp only [Act.put, List.setIfInBounds_toArray, List.set_cons_zero, List.set_cons_succ]
        refine wpAnyH_done (by kernel_rfl) ?_ _
        refine hnorm _ _ ?_
        clear hnorm hpan
        repeat clear hHeld
        try simp only [Exit.then]
        clear z0 z1 z2 ff x0 x1 x2 c0 c1 hcall
        have hX9 : X < w9.heap.size := by have := hs9.out; omega
        go_wp2_with (at_builtin; go_must (refine wpList_pushF_at rfl _ _ rfl (X + 1) (.slice o3 o4 o5) L _ _ rfl rfl (by exact hP8.out.2.1) (by omega) (by omega) ?_))
        intro v10 w10 hown10 hg10 hloc10
        have hst9 : Hid (∃ v', FoSt w10 X w1.heap.size r (ftN r s es cs (i + 1)).s v' (ftN r s es cs (i + 1)).es v10 (ftN r s es cs (i + 1)).l) := hidI ⟨_, by rw [hst2.out]; exact hP8.out.push hX9 hown10 hg10 hloc10⟩
        have hkb10 : Hid (Below X w4 w10) := hidI ((hk49.out.alloc (by omega) _).grown hg10 (by simp; omega) (fun j hj => by have := (World.ownsRow.lt hP8.out.2.1 j hj).1; omega))
        replace hown10 := hidI hown10
        replace hg10 := hidI hg10
        replace hloc10 := hidI hloc10
        go_wp2
        go_roundg (40 - (i + 1))
        case rel => exact ⟨i + 1, by omega, by go_num, hst9, hkb10⟩
        case measure => have := hi.out; omega
      have hcii : (i : Int) < (nc : Int) := by omega
      obtain ⟨cb, co, hac, _, hcc⟩ := (show ReadI _ w7 _ cs from hrdc).at2 i (by have := hnc2.out; omega)
      subst hac
      obtain ⟨c, hcv⟩ : ∃ c, c = cs.getD i 0 := ⟨_, rfl⟩
      rw [← hcv] at hcc
      by_cases hcp : 0 < c
      case neg =>
        have hq0 : q = 0 := by rw [hq]; unfold chN; rw [if_neg (fun h => hcp (by omega))]
        subst hq0
        replace hq := hidI hq
        replace hcv := hidI hcv
        simp only [Nat.zero_mul, Nat.add_zero] at c0 c1
        have hqi0 : (0 : Int) < (FF.length : Int) := by omega
        have hqn0 : 0 < FF.length := by omega
        obtain ⟨u, hu⟩ : ∃ z, z = w7.drew := ⟨_, rfl⟩
        have hPu : FoSt u X w1.heap.size r sz (.slice av E.length cv) E (.slice o3 o4 o5) L := by rw [hu]; exact hP.drew
        have hku : Below X w4 u := by rw [hu]; exact below_dn hkb7 1
        have hsu : u.heap.size = w7.heap.size := by rw [hu]; rfl
        have uc0 : u.cell? ⟨b, off, none⟩ = some (.int .i64 k) := by rw [hu]; exact c0
        have uc1 : u.cell? ⟨b, off + 1, none⟩ = some (.int .i64 d) := by rw [hu]; exact c1
        have ux0 : u.cell? ⟨X, 0, none⟩ = some (.int .i64 r) := by rw [hu]; exact x0
        have ux1 : u.cell? ⟨X, 1, none⟩ = some (.int .i64 sz) := by rw [hu]; exact x1
        have ux2 : u.cell? ⟨X, 2, none⟩ = some (.slice av m cv) := by rw [hu]; exact x2
        have hcall := specMerge u r sz k d (.slice av E.length cv) E hPu.read (by omega) (by omega)
        rw [← hm.out] at hcall
        obtain ⟨ME, hME⟩ : ∃ z, z = mrE r sz E (k, d) := ⟨_, rfl⟩
        obtain ⟨MS, hMS⟩ : ∃ z, z = mrS r sz E (k, d) := ⟨_, rfl⟩
        obtain ⟨OB, hOB⟩ : ∃ z, z = okM r sz E (k, d) := ⟨_, rfl⟩
        rw [← hME, ← hMS, ← hOB] at hcall
        have hst2 := hstep2.out
        rw [← hME, ← hMS] at hst2
        have hbu : b < u.heap.size := by
          rcases Nat.lt_or_ge b u.heap.size with h | h
          · exact h
          · unfold World.cell? at uc0
            rw [show u.heap[(⟨b, off, none⟩ : Addr).block]? = none from Array.getElem?_eq_none h] at uc0
            cases uc0
        replace hst2 := hidI hst2
        replace hME := hidI hME
        replace hMS := hidI hMS
        replace hOB := hidI hOB
        replace hP := hidI hP
        replace hPu := hidI hPu
        replace hku := hidI hku
        replace hkb7 := hidI hkb7
        replace hu := hidI hu
        replace hrdc := hidI hrdc
        go_wp2_with fail
        refine hideQ (fun _ _ d _ _ h => by cases d <;> exact h) (fun Q' hnorm hpan => ?_)
        refine wp_region_held_drew (S := fun z => z.cell? ⟨b, off, none⟩ = some (.int .i64 k) ∧ z.cell? ⟨b, off + 1, none⟩ = some (.int .i64 d)) (by kernel_rfl) ?_ (fun hHeld => ?_)
        · try dsimp only
          rw [← hu.out]
          ((repeat' apply And.intro) <;> assumption)
        rw [← hu.out] at hHeld ⊢
        refine tk 1 49 ?_
        refine tk 2 50 ?_
        refine tk 3 51 ?_
        refine tk 4 52 ?_
        refine wpAnyH_ready (rs := [0]) (by kernel_rfl) (by simp) ?_
        refine AllReadyH.cons rfl (fun Kz hK => ?_) AllReadyH.nil
        rw [if_pos (by rfl)]
        go_simp
        refine hK.out _ _ ?_ (fun hHeld => ?_)
        · try dsimp only
          ((repeat' apply And.intro) <;> assumption)
        clear hK
        try simp only [Act.put, List.setIfInBounds_toArray, List.set_cons_zero, List.set_cons_succ]
        refine wpAnyH_ready (rs := [5]) (by kernel_rfl) (by simp) ?_
        refine AllReadyH.cons rfl (fun Kz hK => ?_) AllReadyH.nil
        rw [if_pos (by rfl)]
        go_simp
        go_at_call 18
        (with_reducible refine hcall.mono ?_)
        rintro e w8 ⟨a8, c8, rfl, hrow8, hb8⟩
        have hs8 := hb8.size
        have hXu : X < u.heap.size := by omega
        have hP8 := hPu.out.store (sz' := MS) (E' := ME) hXu hb8 (by omega) hrow8
        have hX8 := (hb8.block X hXu).trans hPu.out.1
        have z0 := cell_of_heap hX8 0
        have z1 := cell_of_heap hX8 1
        have z2 := cell_of_heap hX8 2
        have ff := fun j => frozen_of_row w8 X j _ _ hX8
        simp at z0 z1 z2
        replace uc0 := below_cell uc0 hb8 hbu
        replace uc1 := below_cell uc1 hb8 hbu
        obtain ⟨m8, hm8⟩ : ∃ z, z = ME.length := ⟨_, rfl⟩
        rw [← hm8] at hP8 ⊢
        obtain ⟨w9, hw9⟩ : ∃ z, z = ((w8.setCell ⟨X, 0, none⟩ (.int .i64 r)).setCell ⟨X, 1, none⟩ (.int .i64 MS)).setCell ⟨X, 2, none⟩ (.slice a8 m8 c8) := ⟨_, rfl⟩
        rw [← hw9] at hP8
        have hk9 : ∀ j, j ≠ X → w9.heap[j]? = w8.heap[j]? := fun j hj => by rw [hw9]; exact heap_set3 hj
        have v0 : w9.cell? ⟨b, off, none⟩ = some (.int .i64 k) := (World.cell?_of_block (w := w8) (a := ⟨b, off, none⟩) (hk9 b hbX7)).trans uc0
        have v1 : w9.cell? ⟨b, off + 1, none⟩ = some (.int .i64 d) := (World.cell?_of_block (w := w8) (a := ⟨b, off + 1, none⟩) (hk9 b hbX7)).trans uc1
        have hk49 : Below X w4 w9 := by
          rw [hw9]
          exact (((hku.out.trans (hb8.mono (by omega))).setCell (p := ⟨X, 0, none⟩) (Nat.le_refl _) _).setCell (p := ⟨X, 1, none⟩) (Nat.le_refl _) _).setCell (p := ⟨X, 2, none⟩) (Nat.le_refl _) _
        have hs9 : w9.heap.size = w8.heap.size := by rw [hw9]; exact size_set3
        replace hP8 := hidI hP8
        replace hX8 := hidI hX8
        replace hrow8 := hidI hrow8
        replace hb8 := hidI hb8
        replace hm8 := hidI hm8
        replace hk9 := hidI hk9
        replace hk49 := hidI hk49
        replace hw9 := hidI hw9
        replace hs9 := hidI hs9
        clear ux0 ux1 ux2
        refine hK.out _ _ ?_ (fun hHeld => ?_)
        · try dsimp only
          ((repeat' apply And.intro) <;> assumption)
        clear hK
        try simp only [Act.put, List.setIfInBounds_toArray, List.set_cons_zero, List.set_cons_succ]
        refine tk 6 47 ?_
        refine tk 7 54 ?_
        refine tk 8 55 ?_
        refine wpAnyH_ready (rs := [9]) (by kernel_rfl) (by simp) ?_
        refine AllReadyH.cons rfl (fun Kz hK => ?_) AllReadyH.nil
        rw [if_pos (by rfl)]
        go_simp
        rw [← hw9.out]
        clear uc0 uc1
        refine hK.out _ _ ?_ (fun hHeld => ?_)
        · try dsimp only
          ((repeat' apply And.intro) <;> assumption)
        clear hK
        try simp only [Act.put, List.setIfInBounds_toArray, List.set_cons_zero, List.set_cons_succ]
        refine wpAnyH_done (by kernel_rfl) ?_ _
        refine hnorm _ _ ?_
        clear hnorm hpan
        repeat clear hHeld
        try simp only [Exit.then]
        clear z0 z1 z2 ff x0 x1 x2 c0 c1 hcall
        have hX9 : X < w9.heap.size := by have := hs9.out; omega
        go_wp2_with (at_builtin; go_must (refine wpList_pushF_at rfl _ _ rfl (X + 1) (.slice o3 o4 o5) L _ _ rfl rfl (by exact hP8.out.2.1) (by omega) (by omega) ?_))
        intro v10 w10 hown10 hg10 hloc10
        have hst9 : Hid (∃ v', FoSt w10 X w1.heap.size r (ftN r s es cs (i + 1)).s v' (ftN r s es cs (i + 1)).es v10 (ftN r s es cs (i + 1)).l) := hidI ⟨_, by rw [hst2.out]; exact hP8.out.push hX9 hown10 hg10 hloc10⟩
        have hkb10 : Hid (Below X w4 w10) := hidI ((hk49.out.alloc (by omega) _).grown hg10 (by simp; omega) (fun j hj => by have := (World.ownsRow.lt hP8.out.2.1 j hj).1; omega))
        replace hown10 := hidI hown10
        replace hg10 := hidI hg10
        replace hloc10 := hidI hloc10
        go_wp2
        go_roundg (40 - (i + 1))
        case rel => exact ⟨i + 1, by omega, by go_num, hst9, hkb10⟩
        case measure => have := hi.out; omega
      have hrem : Int.tmod c (FF.length : Int) = (q : Int) := by
        have h1 := (chZ_chN cs i FF.length (Nat.pos_of_ne_zero h0.out)).1
        unfold chZ at h1
        rw [if_pos ⟨by have := hnc2.out; omega, by omega⟩, ← hcv, ← hq] at h1
        exact h1
      replace hq := hidI hq
      replace hcv := hidI hcv
      obtain ⟨u, hu⟩ : ∃ z, z = w7.drew := ⟨_, rfl⟩
      have hPu : FoSt u X w1.heap.size r sz (.slice av E.length cv) E (.slice o3 o4 o5) L := by rw [hu]; exact hP.drew
      have hku : Below X w4 u := by rw [hu]; exact below_dn hkb7 1
      have hsu : u.heap.size = w7.heap.size := by rw [hu]; rfl
      have uc0 : u.cell? ⟨b, off + q * 2, none⟩ = some (.int .i64 k) := by rw [hu]; exact c0
      have uc1 : u.cell? ⟨b, off + q * 2 + 1, none⟩ = some (.int .i64 d) := by rw [hu]; exact c1
      have ux0 : u.cell? ⟨X, 0, none⟩ = some (.int .i64 r) := by rw [hu]; exact x0
      have ux1 : u.cell? ⟨X, 1, none⟩ = some (.int .i64 sz) := by rw [hu]; exact x1
      have ux2 : u.cell? ⟨X, 2, none⟩ = some (.slice av m cv) := by rw [hu]; exact x2
      have hcall := specMerge u r sz k d (.slice av E.length cv) E hPu.read (by omega) (by omega)
      rw [← hm.out] at hcall
      obtain ⟨ME, hME⟩ : ∃ z, z = mrE r sz E (k, d) := ⟨_, rfl⟩
      obtain ⟨MS, hMS⟩ : ∃ z, z = mrS r sz E (k, d) := ⟨_, rfl⟩
      obtain ⟨OB, hOB⟩ : ∃ z, z = okM r sz E (k, d) := ⟨_, rfl⟩
      rw [← hME, ← hMS, ← hOB] at hcall
      have hst2 := hstep2.out
      rw [← hME, ← hMS] at hst2
      have hbu : b < u.heap.size := by
        rcases Nat.lt_or_ge b u.heap.size with h | h
        · exact h
        · unfold World.cell? at uc0
          rw [show u.heap[(⟨b, off + q * 2, none⟩ : Addr).block]? = none from Array.getElem?_eq_none h] at uc0
          cases uc0
      replace hst2 := hidI hst2
      replace hME := hidI hME
      replace hMS := hidI hMS
      replace hOB := hidI hOB
      replace hP := hidI hP
      replace hPu := hidI hPu
      replace hku := hidI hku
      replace hkb7 := hidI hkb7
      replace hu := hidI hu
      replace hrdc := hidI hrdc
      go_wp2_with fail
      refine hideQ (fun _ _ d _ _ h => by cases d <;> exact h) (fun Q' hnorm hpan => ?_)
      refine wp_region_held_drew (S := fun z => z.cell? ⟨b, off + q * 2, none⟩ = some (.int .i64 k) ∧ z.cell? ⟨b, off + q * 2 + 1, none⟩ = some (.int .i64 d)) (by kernel_rfl) ?_ (fun hHeld => ?_)
      · try dsimp only
        rw [← hu.out]
        ((repeat' apply And.intro) <;> assumption)
      rw [← hu.out] at hHeld ⊢
      refine tk 1 49 ?_
      refine tk 2 50 ?_
      refine tk 3 51 ?_
      refine tk 4 52 ?_
      refine wpAnyH_ready (rs := [0]) (by kernel_rfl) (by simp) ?_
      refine AllReadyH.cons rfl (fun Kz hK => ?_) AllReadyH.nil
      rw [if_pos (by rfl)]
      go_simp
      refine hK.out _ _ ?_ (fun hHeld => ?_)
      · try dsimp only
        ((repeat' apply And.intro) <;> assumption)
      clear hK
      try simp only [Act.put, List.setIfInBounds_toArray, List.set_cons_zero, List.set_cons_succ]
      refine wpAnyH_ready (rs := [5]) (by kernel_rfl) (by simp) ?_
      refine AllReadyH.cons rfl (fun Kz hK => ?_) AllReadyH.nil
      rw [if_pos (by rfl)]
      go_simp
      go_at_call 18
      (with_reducible refine hcall.mono ?_)
      rintro e w8 ⟨a8, c8, rfl, hrow8, hb8⟩
      have hs8 := hb8.size
      have hXu : X < u.heap.size := by omega
      have hP8 := hPu.out.store (sz' := MS) (E' := ME) hXu hb8 (by omega) hrow8
      have hX8 := (hb8.block X hXu).trans hPu.out.1
      have z0 := cell_of_heap hX8 0
      have z1 := cell_of_heap hX8 1
      have z2 := cell_of_heap hX8 2
      have ff := fun j => frozen_of_row w8 X j _ _ hX8
      simp at z0 z1 z2
      replace uc0 := below_cell uc0 hb8 hbu
      replace uc1 := below_cell uc1 hb8 hbu
      obtain ⟨m8, hm8⟩ : ∃ z, z = ME.length := ⟨_, rfl⟩
      rw [← hm8] at hP8 ⊢
      obtain ⟨w9, hw9⟩ : ∃ z, z = ((w8.setCell ⟨X, 0, none⟩ (.int .i64 r)).setCell ⟨X, 1, none⟩ (.int .i64 MS)).setCell ⟨X, 2, none⟩ (.slice a8 m8 c8) := ⟨_, rfl⟩
      rw [← hw9] at hP8
      have hk9 : ∀ j, j ≠ X → w9.heap[j]? = w8.heap[j]? := fun j hj => by rw [hw9]; exact heap_set3 hj
      have v0 : w9.cell? ⟨b, off + q * 2, none⟩ = some (.int .i64 k) := (World.cell?_of_block (w := w8) (a := ⟨b, off + q * 2, none⟩) (hk9 b hbX7)).trans uc0
      have v1 : w9.cell? ⟨b, off + q * 2 + 1, none⟩ = some (.int .i64 d) := (World.cell?_of_block (w := w8) (a := ⟨b, off + q * 2 + 1, none⟩) (hk9 b hbX7)).trans uc1
      have hk49 : Below X w4 w9 := by
        rw [hw9]
        exact (((hku.out.trans (hb8.mono (by omega))).setCell (p := ⟨X, 0, none⟩) (Nat.le_refl _) _).setCell (p := ⟨X, 1, none⟩) (Nat.le_refl _) _).setCell (p := ⟨X, 2, none⟩) (Nat.le_refl _) _
      have hs9 : w9.heap.size = w8.heap.size := by rw [hw9]; exact size_set3
      replace hP8 := hidI hP8
      replace hX8 := hidI hX8
      replace hrow8 := hidI hrow8
      replace hb8 := hidI hb8
      replace hm8 := hidI hm8
      replace hk9 := hidI hk9
      replace hk49 := hidI hk49
      replace hw9 := hidI hw9
      replace hs9 := hidI hs9
      clear ux0 ux1 ux2
      refine hK.out _ _ ?_ (fun hHeld => ?_)
      · try dsimp only
        ((repeat' apply And.intro) <;> assumption)
      clear hK
      try simp only [Act.put, List.setIfInBounds_toArray, List.set_cons_zero, List.set_cons_succ]
      refine tk 6 47 ?_
      refine tk 7 54 ?_
      refine tk 8 55 ?_
      refine wpAnyH_ready (rs := [9]) (by kernel_rfl) (by simp) ?_
      refine AllReadyH.cons rfl (fun Kz hK => ?_) AllReadyH.nil
      rw [if_pos (by rfl)]
      go_simp
      rw [← hw9.out]
      clear uc0 uc1
      refine hK.out _ _ ?_ (fun hHeld => ?_)
      · try dsimp only
        ((repeat' apply And.intro) <;> assumption)
      clear hK
      try simp only [Act.put, List.setIfInBounds_toArray, List.set_cons_zero, List.set_cons_succ]
      refine wpAnyH_done (by kernel_rfl) ?_ _
      refine hnorm _ _ ?_
      clear hnorm hpan
      repeat clear hHeld
      try simp only [Exit.then]
      clear z0 z1 z2 ff x0 x1 x2 c0 c1 hcall
      have hX9 : X < w9.heap.size := by have := hs9.out; omega
      go_wp2_with (at_builtin; go_must (refine wpList_pushF_at rfl _ _ rfl (X + 1) (.slice o3 o4 o5) L _ _ rfl rfl (by exact hP8.out.2.1) (by omega) (by omega) ?_))
      intro v10 w10 hown10 hg10 hloc10
      have hst9 : Hid (∃ v', FoSt w10 X w1.heap.size r (ftN r s es cs (i + 1)).s v' (ftN r s es cs (i + 1)).es v10 (ftN r s es cs (i + 1)).l) := hidI ⟨_, by rw [hst2.out]; exact hP8.out.push hX9 hown10 hg10 hloc10⟩
      have hkb10 : Hid (Below X w4 w10) := hidI ((hk49.out.alloc (by omega) _).grown hg10 (by simp; omega) (fun j hj => by have := (World.ownsRow.lt hP8.out.2.1 j hj).1; omega))
      replace hown10 := hidI hown10
      replace hg10 := hidI hg10
      replace hloc10 := hidI hloc10
      go_wp2
      go_roundg (40 - (i + 1))
      case rel => exact ⟨i + 1, by omega, by go_num, hst9, hkb10⟩
      case measure => have := hi.out; omega
end Go.Proofs.YtgngfffmkjckdaaGreatDoor

namespace Go.Proofs.YtgngfffmkjckdaaGreatDoor
open Go.RowKit
set_option linter.unusedVariables false
set_option linter.unusedSimpArgs false

set_option maxRecDepth 100000 in
set_option maxHeartbeats 6400000 in
theorem specAll (w : World) (r s : Int) (v : Value) (es : List Ed) (h : ReadE w.heap.size w v es) (hs : -9223372036854775808 ≤ s ∧ s ≤ 9223372036854775807) (hl : es.length ≤ 1048576) :
    Calls Tryz.prog 7 #[.agg #[.int .i64 r, .int .i64 s, v]] w (LwGraphFolds w r (faS r s es) (faE r s es) (faL r s es)) := by
  obtain ⟨a, cap, rfl, hnc⟩ := h.form
  obtain ⟨n, hn⟩ : ∃ n, n = es.length := ⟨_, rfl⟩
  rw [← hn] at h
  rw [← hn] at hl hnc ⊢
  obtain ⟨wa, hwa⟩ : ∃ z, z = w.alloc (.cells #[.int .i64 r, .int .i64 s, .slice a n cap] 26) := ⟨_, rfl⟩
  obtain ⟨w1, hw1⟩ : ∃ z, z = wa.alloc (.cells #[.int .i64 0, .int .i64 0, .slice none 0 0] 26) := ⟨_, rfl⟩
  have hww : (w.alloc (.cells #[.int .i64 r, .int .i64 s, .slice a n cap] 26)).alloc (.cells #[.int .i64 0, .int .i64 0, .slice none 0 0] 26) = w1 := by rw [hw1, hwa]
  have hb1 : Below w.heap.size w w1 := by rw [← hww]; exact ((Below.refl _ _).alloc (Nat.le_refl _) _).alloc (by simp) _
  have hs1 : w1.heap.size = w.heap.size + 1 + 1 := by rw [← hww]; simp
  have hg := heap_box w (.cells #[.int .i64 r, .int .i64 s, .slice a n cap] 26) (.cells #[.int .i64 0, .int .i64 0, .slice none 0 0] 26)
  have hR := heap_alloc_new (w.alloc (.cells #[.int .i64 r, .int .i64 s, .slice a n cap] 26)) (.cells #[.int .i64 0, .int .i64 0, .slice none 0 0] 26)
  rw [hww] at hg hR
  rw [show (w.alloc (.cells #[.int .i64 r, .int .i64 s, .slice a n cap] 26)).heap.size = w.heap.size + 1 by simp] at hR
  have g0 : w1.cell? ⟨w.heap.size, 0, none⟩ = some (.int .i64 r) := by simpa using cell_of_heap hg 0
  have g1 : w1.cell? ⟨w.heap.size, 1, none⟩ = some (.int .i64 s) := by simpa using cell_of_heap hg 1
  have g2 : w1.cell? ⟨w.heap.size, 2, none⟩ = some (.slice a n cap) := by simpa using cell_of_heap hg 2
  have hrd1 := (h.below hb1).mono hb1.size
  rw [hn] at hrd1
  have hcopy := specCopy w1 r s _ es hrd1 (by omega)
  rw [← hn] at hcopy hrd1
  obtain ⟨ZS, hZS⟩ : ∃ B, B = faS r s es := ⟨_, rfl⟩
  obtain ⟨ZE, hZE⟩ : ∃ B, B = faE r s es := ⟨_, rfl⟩
  obtain ⟨ZL, hZL⟩ : ∃ B, B = faL r s es := ⟨_, rfl⟩
  rw [← hZS, ← hZE, ← hZL]
  have hRk : ∀ W, Below w1.heap.size w1 W → W.heap[w.heap.size + 1]? = some (.cells #[.int .i64 0, .int .i64 0, .slice none 0 0] 26 (0, 0)) := fun W hW => by rw [hW.block _ (by omega)]; exact hR
  replace hRk := hidI hRk
  replace hww := hidI hww
  replace hn := hidI hn
  replace h := hidI h
  replace hg := hidI hg
  replace hR := hidI hR
  replace hs1 := hidI hs1
  replace hZS := hidI hZS
  replace hZE := hidI hZE
  replace hZL := hidI hZL
  replace hwa := hidI hwa
  replace hw1 := hidI hw1
  replace hrd1 := hidI hrd1
  go_enter Tryz.func7, Tryz.ntmps7
  go_upto_region 1 with fail
  rw [hww.out]
  go_wp2_with fail
  refine hcopy.mono ?_
  rintro e w2 ⟨ca, cc, rfl, hrow2, hb2⟩
  rw [← hn.out]
  clear hcopy
  have hlt1 : w.heap.size + 1 < w1.heap.size := by have := hs1.out; omega
  have hb2l : w1.heap.size ≤ w2.heap.size := hb2.size
  obtain ⟨w3, hw3⟩ : ∃ z, z = w2.alloc (.cells #[.int .i64 r, .int .i64 s, .slice ca n cc] 26) := ⟨_, rfl⟩
  have hb3 : Below w2.heap.size w2 w3 := by rw [hw3]; exact (Below.refl _ _).alloc (Nat.le_refl _) _
  have hs3 : w3.heap.size = w2.heap.size + 1 := by rw [hw3]; simp
  have hk3 : w3.heap[w2.heap.size]? = some (.cells #[.int .i64 r, .int .i64 s, .slice ca n cc] 26 (0, 0)) := by rw [hw3]; exact heap_alloc_new _ _
  obtain ⟨X, hX⟩ : ∃ X, X = w2.heap.size := ⟨_, rfl⟩
  rw [← hX] at hk3 hs3
  obtain ⟨w4, hw4⟩ : ∃ z, z = w3.alloc (.cells #[] 37) := ⟨_, rfl⟩
  have hb4 : Below w3.heap.size w3 w4 := by rw [hw4]; exact (Below.refl _ _).alloc (Nat.le_refl _) _
  have hown4 : OwnsF w4 w3.heap.size (.slice (some ⟨w3.heap.size, 0, none⟩) 0 0) [] := by rw [hw4]; exact OwnsF.litF w3
  have hb24 := hb3.trans (hb4.mono (by omega))
  have hb14 : Below w1.heap.size w1 w4 := hb2.trans (hb24.mono hb2l)
  have hb04 : Below w.heap.size w w4 := hb1.trans (hb14.mono (by omega))
  have hs34 : X + 1 < w4.heap.size := by have h1 : w4.heap.size = w3.heap.size + 1 := by { rw [hw4]; simp }; omega
  rw [hs3] at hown4
  have hst0 : Hid (∃ v', FoSt w4 X w1.heap.size r (stN r s es 0).s v' (stN r s es 0).es (.slice (some ⟨X + 1, 0, none⟩) 0 0) (stN r s es 0).l) := hidI ⟨.slice ca n cc, by
    have hrow := hrow2
    refine ⟨(hb4.block X (by omega)).trans hk3, hown4, w1.heap.size, w2.heap.size, ?_, Nat.le_refl _, hb2l, by have := hb24.size; omega, .inl (by omega), fun b hb => ?_⟩
    · have h5 := hrow.below hb24 (Nat.le_refl _)
      have e2 := hn.out
      rw [e2]; exact h5
    · have := Option.some.inj hb
      right; show w2.heap.size ≤ b
      have e3 : X + 1 = b := this
      omega⟩
  have hkb0 : Hid (Below X w4 w4) := hidI (Below.refl _ _)
  have hbX : w.heap.size + 1 < X := by omega
  have hs3' : w3.heap.size = X + 1 := hs3
  replace hs3 := hidI hs3
  replace hk3 := hidI hk3
  replace hb3 := hidI hb3
  replace hb4 := hidI hb4
  replace hb2 := hidI hb2
  replace hb24 := hidI hb24
  replace hb14 := hidI hb14
  replace hb04 := hidI hb04
  replace hown4 := hidI hown4
  replace hrow2 := hidI hrow2
  replace hs3' := hidI hs3'
  go_upto_region 2 with fail
  rw [← hw3]
  replace hw3 := hidI hw3
  rw [← hX]
  have hXe := hidI hX
  have hX2 : w2.heap.size ≤ X ∧ X ≤ w2.heap.size := by omega
  clear hX
  go_upto_region 3 with fail
  rw [← hw4]
  replace hw4 := hidI hw4
  rw [hs3'.out]
  clear g0 g1 g2
  go_wp2
  go_loopg [5, 6] 40 (fun g o ii wr => ∃ i : Nat, i + g = 40 ∧ ii = .int .i64 (i : Int) ∧ Hid (∃ v', FoSt wr X w1.heap.size r (stN r s es i).s v' (stN r s es i).es o (stN r s es i).l) ∧ Hid (Below X w4 wr) ∧ Hid (-9223372036854775808 ≤ (stN r s es i).s ∧ (stN r s es i).s ≤ 9223372036854775807))
  case atStart => exact ⟨0, by omega, by simp, hst0, hkb0, hidI hs⟩
  case round =>
    clear hst0 hkb0
    obtain ⟨i, hi, rfl, hst, hkb, hsb⟩ := hrel
    obtain ⟨v6, hP⟩ := hst.out
    obtain ⟨T, hT⟩ : ∃ T, T = stN r s es i := ⟨_, rfl⟩
    obtain ⟨hTl, hTi⟩ := stN_len r s es i
    rw [← hT] at hP hTl hTi hsb
    have hstop := fun (hf : ffB r T.s T.es = false) => stN_stop r s es (i := i) (by rw [← hT]; exact hf)
    have hnext : ffB r T.s T.es = true → stN r s es (i + 1) = ⟨onS r T.s T.es, onE r T.s T.es, T.l ++ [ffF r T.s T.es]⟩ := fun hf => by rw [stN, ← hT, if_pos hf]
    obtain ⟨E, hE⟩ : ∃ E, E = T.es := ⟨_, rfl⟩
    obtain ⟨L, hL⟩ : ∃ E, E = T.l := ⟨_, rfl⟩
    obtain ⟨sz, hsz⟩ : ∃ E, E = T.s := ⟨_, rfl⟩
    rw [← hE, ← hL, ← hsz] at hP
    rw [← hE] at hTl
    rw [← hL] at hTi
    rw [← hsz, ← hE] at hstop
    rw [← hsz, ← hE, ← hL] at hnext
    rw [← hsz] at hsb
    obtain ⟨av, cv, rfl⟩ := hP.form
    obtain ⟨o3, o4, o5, rfl⟩ := hP.2.1.form3
    have hXr : X < wr.heap.size := by have := hkb.out.size; omega
    have hbr : Below w.heap.size w wr := hb04.out.trans (hkb.out.mono (by omega))
    have hbr1 : Below w1.heap.size w1 wr := hb14.out.trans (hkb.out.mono (by omega))
    obtain ⟨m, hm⟩ : ∃ m, m = E.length := ⟨_, rfl⟩
    have hbox := hP.1
    have x0 := cell_of_heap hbox 0
    have x1 := cell_of_heap hbox 1
    have x2 := cell_of_heap hbox 2
    simp at x0 x1 x2
    rw [← hm] at x2
    have hEl : E.length ≤ 1048576 := by have := hn.out; omega
    have honce := specOnce wr r sz (.slice av E.length cv) E hP.read hsb.out (by omega)
    rw [← hm] at honce
    replace hm := hidI hm
    obtain ⟨ON, hON⟩ : ∃ z, z = onE r sz E := ⟨_, rfl⟩
    obtain ⟨OS, hOS⟩ : ∃ z, z = onS r sz E := ⟨_, rfl⟩
    obtain ⟨⟨k, d⟩, hF⟩ : ∃ z, z = ffF r sz E := ⟨_, rfl⟩
    obtain ⟨C, hC⟩ : ∃ z, z = ffB r sz E := ⟨_, rfl⟩
    rw [← hON, ← hOS, ← hF, ← hC] at honce
    rw [← hON, ← hOS, ← hF, ← hC] at hnext
    rw [← hC] at hstop
    have hOSb : -9223372036854775808 ≤ OS ∧ OS ≤ 9223372036854775807 := by
      rw [hOS]
      unfold onS mrS
      split
      · split
        · rename_i h1 h2
          have := okM_iff.1 h2
          have h3 := (isGr_iff.1 this.1).2.2.2
          omega
        · exact hsb.out
      · exact hsb.out
    unfold LwGraphFoldBool at honce
    simp only at honce
    replace hT := hidI hT
    replace hE := hidI hE
    replace hL := hidI hL
    replace hsz := hidI hsz
    replace hi := hidI hi
    replace hbox := hidI hbox
    replace hstop := hidI hstop
    replace hnext := hidI hnext
    replace hON := hidI hON
    replace hOS := hidI hOS
    replace hF := hidI hF
    replace hC := hidI hC
    replace hOSb := hidI hOSb
    replace hP := hidI hP
    clear hst
    by_cases hlt : i < 40
    · have hki : (i : Int) < 40 := by omega
      replace hbr := hidI hbr
      replace hbr1 := hidI hbr1
      go_wp2_with fail
      refine honce.mono ?_
      rintro e w6 ⟨ra, rc, rfl, hrow6, hb6⟩
      clear honce
      have hs6 := hb6.size
      obtain ⟨mo, hmo⟩ : ∃ m, m = ON.length := ⟨_, rfl⟩
      rw [← hmo]
      replace hmo := hidI hmo
      obtain ⟨w7, hw7⟩ : ∃ z, z = (w6.alloc (.cells #[.int .i64 r, .int .i64 OS, .slice ra mo rc] 26)).alloc (.cells #[.int .i64 k, .int .i64 d] 37) := ⟨_, rfl⟩
      have hb7 : Below w6.heap.size w6 w7 := by rw [hw7]; exact ((Below.refl _ _).alloc (Nat.le_refl _) _).alloc (by simp) _
      have hs7 : w7.heap.size = w6.heap.size + 1 + 1 := by rw [hw7]; simp
      have hy := heap_box w6 (.cells #[.int .i64 r, .int .i64 OS, .slice ra mo rc] 26) (.cells #[.int .i64 k, .int .i64 d] 37)
      have hf := heap_alloc_new (w6.alloc (.cells #[.int .i64 r, .int .i64 OS, .slice ra mo rc] 26)) (.cells #[.int .i64 k, .int .i64 d] 37)
      rw [← hw7] at hy hf
      rw [show (w6.alloc (.cells #[.int .i64 r, .int .i64 OS, .slice ra mo rc] 26)).heap.size = w6.heap.size + 1 by simp] at hf
      obtain ⟨Y, hY⟩ : ∃ Y, Y = w6.heap.size := ⟨_, rfl⟩
      rw [← hY] at hy hf
      have y0 := cell_of_heap hy 0
      have y1 := cell_of_heap hy 1
      have y2 := cell_of_heap hy 2
      have f0 := cell_of_heap hf 0
      have f1 := cell_of_heap hf 1
      simp at y0 y1 y2 f0 f1
      have hb67 : Below wr.heap.size wr w7 := hb6.trans (hb7.mono hs6)
      have hs67 := hb67.size
      have hP7 := hP.out.below hXr hb67
      replace x0 := below_cell x0 hb67 hXr
      replace x1 := below_cell x1 hb67 hXr
      replace x2 := below_cell x2 hb67 hXr
      have hk7 : Below X w4 w7 := hkb.out.trans (hb67.mono (by omega))
      have hbw7 : Below w.heap.size w w7 := hbr.out.trans (hb67.mono hbr.out.size)
      have hbw17 : Below w1.heap.size w1 w7 := hbr1.out.trans (hb67.mono hbr1.out.size)
      have hYX : X < Y := by omega
      have hYe := hidI hY
      have hY2 : Y < w7.heap.size ∧ Y + 1 < w7.heap.size := by omega
      replace hs7 := hidI hs7
      replace hy := hidI hy
      replace hf := hidI hf
      have hrow7 : RowS 55 3 w7 wr.heap.size w7.heap.size (.slice ra ON.length rc) ON.length (flatE ON) := (hrow6.below hb7 (Nat.le_refl _)).wide (Nat.le_refl _) hb7.size
      replace hrow6 := hidI hrow6
      replace hb6 := hidI hb6
      replace hb7 := hidI hb7
      clear hY
      go_upto_region 7 with fail
      rw [← hw7]
      replace hw7 := hidI hw7
      rw [← hYe.out]
      cases C with
      | false =>
        have hZZ : stN r s es 40 = T := by
          have := hstop.out rfl (40 - i)
          rw [show i + (40 - i) = 40 by omega] at this
          rw [this, hT.out]
        have hZ1 : ZS = sz := by rw [hZS.out]; unfold faS; rw [hZZ, hsz.out]
        have hZ2 : ZE = E := by rw [hZE.out]; unfold faE; rw [hZZ, hE.out]
        have hZ3 : ZL = L := by rw [hZL.out]; unfold faL; rw [hZZ, hL.out]
        have hRx := hRk.out w7 hbw17
        have z0 := cell_of_heap hRx 0
        have z1 := cell_of_heap hRx 1
        have z2 := cell_of_heap hRx 2
        have f2 := fun j => frozen_of_row w7 (w.heap.size + 1) j _ _ hRx
        simp at z0 z1 z2
        have hfin := fo_fin (w := w) (w9 := w7) (X := X) (R := w.heap.size + 1) (base := w1.heap.size) (cap := cv) (r := r) (s' := sz) (E := E) (L := L) (a := av) (by omega) (by omega) (by omega) hbw7 hP7 (by omega)
        rw [← hm.out] at hfin
        have hset := set3 hRx (.int .i64 r) (.int .i64 sz) (.slice av m cv)
        replace hfin := hidI hfin
        replace hset := hidI hset
        replace hRx := hidI hRx
        replace hP7 := hidI hP7
        replace hb67 := hidI hb67
        replace hk7 := hidI hk7
        replace hbw7 := hidI hbw7
        replace hbw17 := hidI hbw17
        replace hZ1 := hidI hZ1
        replace hZ2 := hidI hZ2
        replace hZ3 := hidI hZ3
        replace hZZ := hidI hZZ
        replace hrow7 := hidI hrow7
        replace hC := hidI hC.out
        clear y0 y1 y2 f0 f1
        go_wp2
        (try simp only [Exit.inBlock, Exit.then])
        refine ret_cell2 (x := .slice o3 o4 o5) rfl rfl rfl hset.out Tryz.underlying26 sizeGraph ?_
        rw [hZ1.out, hZ2.out, hZ3.out]
        exact hfin.out
      | true =>
        have hnx := hnext.out rfl
        have hPr := hP.out
        have hst8 := FoSt.store (sz' := OS) (E' := ON) hPr hXr hb67 (by have := hbr1.out.size; omega) hrow7
        rw [← hmo.out] at hst8
        obtain ⟨w8, hw8⟩ : ∃ z, z = ((w7.setCell ⟨X, 0, none⟩ (.int .i64 r)).setCell ⟨X, 1, none⟩ (.int .i64 OS)).setCell ⟨X, 2, none⟩ (.slice ra mo rc) := ⟨_, rfl⟩
        rw [← hw8] at hst8
        have hX7 := hP7.1
        have ff := fun j => frozen_of_row w7 X j _ _ hX7
        have hk8 : ∀ j, j ≠ X → w8.heap[j]? = w7.heap[j]? := fun j hj => by rw [hw8]; exact heap_set3 hj
        have u0 : w8.cell? ⟨Y + 1, 0, none⟩ = some (.int .i64 k) := (World.cell?_of_block (w := w7) (a := ⟨Y + 1, 0, none⟩) (hk8 (Y + 1) (by omega))).trans f0
        have u1 : w8.cell? ⟨Y + 1, 1, none⟩ = some (.int .i64 d) := (World.cell?_of_block (w := w7) (a := ⟨Y + 1, 1, none⟩) (hk8 (Y + 1) (by omega))).trans f1
        have hk48 : Below X w4 w8 := by
          rw [hw8]
          exact ((hk7.setCell (p := ⟨X, 0, none⟩) (Nat.le_refl _) _).setCell (p := ⟨X, 1, none⟩) (Nat.le_refl _) _).setCell (p := ⟨X, 2, none⟩) (Nat.le_refl _) _
        have hs8 : w8.heap.size = w7.heap.size := by rw [hw8]; exact size_set3
        have hX8 : X < w8.heap.size := by omega
        replace hst8 := hidI hst8
        replace hX7 := hidI hX7
        replace hk8 := hidI hk8
        replace hk48 := hidI hk48
        replace hs8 := hidI hs8
        replace hPr := hidI hPr
        replace hP7 := hidI hP7
        replace hb67 := hidI hb67
        replace hk7 := hidI hk7
        replace hbw7 := hidI hbw7
        replace hbw17 := hidI hbw17
        replace hrow7 := hidI hrow7
        replace hnx := hidI hnx
        replace hC := hidI hC.out
        go_upto_region 10 with fail
        rw [← hw8]
        replace hw8 := hidI hw8
        clear x0 x1 x2 y0 y1 y2 f0 f1 ff
        go_wp2_with (at_builtin; go_must (refine wpList_pushF_at rfl _ _ rfl (X + 1) (.slice o3 o4 o5) L _ _ rfl rfl (by exact hst8.out.2.1) (by omega) (by omega) ?_))
        intro v10 w10 hown10 hg10 hloc10
        have hst9 : Hid (∃ v', FoSt w10 X w1.heap.size r (stN r s es (i + 1)).s v' (stN r s es (i + 1)).es v10 (stN r s es (i + 1)).l) := hidI ⟨_, by rw [hnx.out]; exact hst8.out.push hX8 hown10 hg10 hloc10⟩
        have hkb10 : Hid (Below X w4 w10) := hidI ((hk48.out.alloc (by omega) _).grown hg10 (by simp; omega) (fun j hj => by have := (World.ownsRow.lt hst8.out.2.1 j hj).1; omega))
        have hsb9 : Hid (-9223372036854775808 ≤ (stN r s es (i + 1)).s ∧ (stN r s es (i + 1)).s ≤ 9223372036854775807) := hidI (by rw [hnx.out]; exact hOSb.out)
        replace hown10 := hidI hown10
        replace hg10 := hidI hg10
        replace hloc10 := hidI hloc10
        go_wp2
        go_roundg (40 - (i + 1))
        case rel => exact ⟨i + 1, by omega, by go_num, hst9, hkb10, hsb9⟩
        case measure => have := hi.out; omega
    · obtain rfl : i = 40 := by have := hi.out; omega
      have hki : ¬ ((40 : Nat) : Int) < 40 := by omega
      have hZ1 : ZS = sz := by rw [hZS.out, hsz.out, hT.out]; rfl
      have hZ2 : ZE = E := by rw [hZE.out, hE.out, hT.out]; rfl
      have hZ3 : ZL = L := by rw [hZL.out, hL.out, hT.out]; rfl
      have hRx := hRk.out wr hbr1
      have z0 := cell_of_heap hRx 0
      have z1 := cell_of_heap hRx 1
      have z2 := cell_of_heap hRx 2
      have f2 := fun j => frozen_of_row wr (w.heap.size + 1) j _ _ hRx
      simp at z0 z1 z2
      have hfin := fo_fin (w := w) (w9 := wr) (X := X) (R := w.heap.size + 1) (base := w1.heap.size) (cap := cv) (r := r) (s' := sz) (E := E) (L := L) (a := av) (by omega) (by omega) (by omega) hbr hP.out (by omega)
      rw [← hm.out] at hfin
      have hset := set3 hRx (.int .i64 r) (.int .i64 sz) (.slice av m cv)
      replace hfin := hidI hfin
      replace hset := hidI hset
      replace hRx := hidI hRx
      replace hbr := hidI hbr
      replace hbr1 := hidI hbr1
      replace hZ1 := hidI hZ1
      replace hZ2 := hidI hZ2
      replace hZ3 := hidI hZ3
      clear honce
      go_wp2
      (try simp only [Exit.inBlock, Exit.then])
      refine ret_cell2 (x := .slice o3 o4 o5) rfl rfl rfl hset.out Tryz.underlying26 sizeGraph ?_
      rw [hZ1.out, hZ2.out, hZ3.out]
      exact hfin.out
end Go.Proofs.YtgngfffmkjckdaaGreatDoor

namespace Go.Proofs.YtgngfffmkjckdaaGreatDoor
open Go.RowKit
set_option linter.unusedVariables false
set_option linter.unusedSimpArgs false

/-- A graph in a box of its own is stored in the box X. -/
theorem MSt.stored {w w' : World} {X base B lo hi : Nat} {r sz sz' : Int} {v : Value} {a : Option Addr} {c : Nat} {E E' : List Ed} (h : MSt w X base r sz v E) (hX : X < w.heap.size) (hbase : base ≤ w.heap.size) (hr : BoxRel w r sz' E' B lo hi a c w') :
    MSt (((w'.setCell ⟨X, 0, none⟩ (.int .i64 r)).setCell ⟨X, 1, none⟩ (.int .i64 sz')).setCell ⟨X, 2, none⟩ (.slice a E'.length c)) X base r sz' (.slice a E'.length c) E' := by
  obtain ⟨h1, _⟩ := h
  obtain ⟨q1, q2, q3, q4, q5, q6, q7, q8, q9⟩ := hr
  exact ⟨set3 ((q9.block X hX).trans h1) _ _ _, lo, hi, q8.set3_ (.inl (by omega)), by omega, by rw [size_set3]; exact q5, .inr (by omega)⟩
theorem take_mem {l : List tupF} {j : Nat} (hj : j < l.length) (f : tupF) : decide (f ∈ l.take (j + 1)) = (decide (f ∈ l.take j) || decide (f = l.getD j zeroF)) := by
  have e : l.take (j + 1) = l.take j ++ [l.getD j zeroF] := by rw [List.take_add_one, List.getElem?_eq_getElem hj, List.getD_eq_getElem?_getD, List.getElem?_eq_getElem hj]; rfl
  rw [e, Bool.eq_iff_iff]
  simp only [List.mem_append, List.mem_singleton, Bool.or_eq_true, decide_eq_true_eq]
set_option maxRecDepth 100000 in
set_option maxHeartbeats 6400000 in
theorem specReplay (w : World) (r s : Int) (v vl : Value) (es : List Ed) (l : List tupF) (h : ReadE w.heap.size w v es) (hs : -9223372036854775808 ≤ s ∧ s ≤ 9223372036854775807) (hl : es.length ≤ 1048576) (hf : ReadF w.heap.size w vl l) (hfl : l.length ≤ 100000000) :
    Calls Tryz.prog 22 #[.agg #[.int .i64 r, .int .i64 s, v], vl] w (LwGraphBool w r (reS r s es l) (reE r s es l) (reB r s es l)) := by
  obtain ⟨a, cap, rfl, hnc⟩ := h.form
  obtain ⟨n, hn⟩ : ∃ n, n = es.length := ⟨_, rfl⟩
  rw [← hn] at h
  rw [← hn] at hl hnc ⊢
  obtain ⟨wa, hwa⟩ : ∃ z, z = w.alloc (.cells #[.int .i64 r, .int .i64 s, .slice a n cap] 26) := ⟨_, rfl⟩
  obtain ⟨w1, hw1⟩ : ∃ z, z = wa.alloc (.cells #[.int .i64 0, .int .i64 0, .slice none 0 0] 26) := ⟨_, rfl⟩
  have hww : (w.alloc (.cells #[.int .i64 r, .int .i64 s, .slice a n cap] 26)).alloc (.cells #[.int .i64 0, .int .i64 0, .slice none 0 0] 26) = w1 := by rw [hw1, hwa]
  have hb1 : Below w.heap.size w w1 := by rw [← hww]; exact ((Below.refl _ _).alloc (Nat.le_refl _) _).alloc (by simp) _
  have hs1 : w1.heap.size = w.heap.size + 1 + 1 := by rw [← hww]; simp
  have hg := heap_box w (.cells #[.int .i64 r, .int .i64 s, .slice a n cap] 26) (.cells #[.int .i64 0, .int .i64 0, .slice none 0 0] 26)
  have hR := heap_alloc_new (w.alloc (.cells #[.int .i64 r, .int .i64 s, .slice a n cap] 26)) (.cells #[.int .i64 0, .int .i64 0, .slice none 0 0] 26)
  rw [hww] at hg hR
  rw [show (w.alloc (.cells #[.int .i64 r, .int .i64 s, .slice a n cap] 26)).heap.size = w.heap.size + 1 by simp] at hR
  have g0 : w1.cell? ⟨w.heap.size, 0, none⟩ = some (.int .i64 r) := by simpa using cell_of_heap hg 0
  have g1 : w1.cell? ⟨w.heap.size, 1, none⟩ = some (.int .i64 s) := by simpa using cell_of_heap hg 1
  have g2 : w1.cell? ⟨w.heap.size, 2, none⟩ = some (.slice a n cap) := by simpa using cell_of_heap hg 2
  obtain ⟨B, hB⟩ : ∃ B, B = isGr r s es := ⟨_, rfl⟩
  obtain ⟨ZS, hZS⟩ : ∃ B, B = reS r s es l := ⟨_, rfl⟩
  obtain ⟨ZE, hZE⟩ : ∃ B, B = reE r s es l := ⟨_, rfl⟩
  obtain ⟨ZB, hZB⟩ : ∃ B, B = reB r s es l := ⟨_, rfl⟩
  rw [← hZS, ← hZE, ← hZB]
  have hnall : reAll r s es l l.length = false → ZB = false ∧ ZS = s ∧ ZE = es := fun hf => by rw [hZS, hZE, hZB]; unfold reB reS reE; rw [hf]; exact ⟨by simp, by simp, by simp⟩
  have hall : reAll r s es l l.length = true → ZB = B ∧ ZS = (reSt r s es l l.length).1 ∧ ZE = (reSt r s es l l.length).2 := fun h2 => by rw [hZS, hZE, hZB]; unfold reB reS reE; rw [h2, ← hB]; exact ⟨by simp, by simp, by simp⟩
  have hRk : ∀ W, Below w1.heap.size w1 W → W.heap[w.heap.size + 1]? = some (.cells #[.int .i64 0, .int .i64 0, .slice none 0 0] 26 (0, 0)) := fun W hW => by rw [hW.block _ (by omega)]; exact hR
  have hend : ∀ (W : World) (x0 x1 x2 : Value), Below w.heap.size w W → Below w.heap.size w (((W.setCell ⟨w.heap.size + 1, 0, none⟩ x0).setCell ⟨w.heap.size + 1, 1, none⟩ x1).setCell ⟨w.heap.size + 1, 2, none⟩ x2) := fun W x0 x1 x2 hW => below_set3 hW (by omega)
  have hcopy := fun (W : World) (hr : ReadE W.heap.size W (.slice a es.length cap) es) => specCopy W r s _ es hr (by omega)
  have hisx := fun (W : World) (hr : ReadE W.heap.size W (.slice a es.length cap) es) => specIsGr W r s _ es hr hs (by omega)
  rw [← hn] at hcopy
  rw [← hn, ← hB] at hisx
  obtain ⟨al, cl, rfl, _⟩ := hf.form
  obtain ⟨nl, hnl⟩ : ∃ z, z = l.length := ⟨_, rfl⟩
  have hf0 := hidI hf
  rw [← hnl] at hfl ⊢
  rw [← hnl] at hf0
  rw [← hnl] at hnall hall
  clear hf
  have hcc1 := hcopy w1 ((h.below hb1).mono hb1.size)
  replace hcopy := hidI hcopy
  replace hisx := hidI hisx
  replace hnall := hidI hnall
  replace hall := hidI hall
  replace hRk := hidI hRk
  replace hend := hidI hend
  replace hww := hidI hww
  replace hn := hidI hn
  replace h := hidI h
  replace hg := hidI hg
  replace hR := hidI hR
  replace hs1 := hidI hs1
  replace hZS := hidI hZS
  replace hZE := hidI hZE
  replace hZB := hidI hZB
  replace hwa := hidI hwa
  replace hw1 := hidI hw1
  replace hnl := hidI hnl
  replace hB := hidI hB
  go_enter Tryz.func22, Tryz.ntmps22
  go_upto_region 1 with fail
  rw [hww.out]
  go_wp2_with fail
  refine hcc1.mono ?_
  rintro e w2 ⟨ca, cc, rfl, hrow2, hb2⟩
  rw [← hn.out]
  clear hcc1
  have hlt1 : w.heap.size + 1 < w1.heap.size := by have := hs1.out; omega
  have hb2l : w1.heap.size ≤ w2.heap.size := hb2.size
  obtain ⟨w3, hw3⟩ : ∃ z, z = w2.alloc (.cells #[.int .i64 r, .int .i64 s, .slice ca n cc] 26) := ⟨_, rfl⟩
  have hb3 : Below w2.heap.size w2 w3 := by rw [hw3]; exact (Below.refl _ _).alloc (Nat.le_refl _) _
  have hs3 : w3.heap.size = w2.heap.size + 1 := by rw [hw3]; simp
  have hk3 : w3.heap[w2.heap.size]? = some (.cells #[.int .i64 r, .int .i64 s, .slice ca n cc] 26 (0, 0)) := by rw [hw3]; exact heap_alloc_new _ _
  obtain ⟨X, hX⟩ : ∃ X, X = w2.heap.size := ⟨_, rfl⟩
  rw [← hX] at hk3 hs3
  have hb13 : Below w1.heap.size w1 w3 := hb2.trans (hb3.mono hb2l)
  have hb03 : Below w.heap.size w w3 := hb1.trans (hb13.mono (by omega))
  have g0' := below_cell (below_cell g0 hb2 (by omega)) hb3 (by omega)
  have g1' := below_cell (below_cell g1 hb2 (by omega)) hb3 (by omega)
  have g2' := below_cell (below_cell g2 hb2 (by omega)) hb3 (by omega)
  have hst0 : Hid (∃ v', MSt w3 X w1.heap.size r (reSt r s es l 0).1 v' (reSt r s es l 0).2) := hidI ⟨.slice ca n cc, by
    refine ⟨hk3, w1.heap.size, w2.heap.size, ?_, Nat.le_refl _, by omega, .inl (by omega)⟩
    have h5 := hrow2.below hb3 (Nat.le_refl _)
    have e2 := hn.out
    rw [e2]; exact h5⟩
  have hkb0 : Hid (Below X w3 w3) := hidI (Below.refl _ _)
  have hra0 : Hid (reAll r s es l 0 = true) := hidI rfl
  have hbX : w.heap.size + 1 < X := by omega
  have hX2 : w1.heap.size ≤ X := by omega
  have hXe := hidI hX
  clear hX
  have hX3 : X < w3.heap.size := by omega
  replace hs3 := hidI hs3
  replace hk3 := hidI hk3
  replace hb3 := hidI hb3
  replace hb2 := hidI hb2
  replace hb13 := hidI hb13
  replace hb03 := hidI hb03
  replace hrow2 := hidI hrow2
  go_upto_region 2 with fail
  rw [← hw3]
  replace hw3 := hidI hw3
  rw [← hXe.out]
  clear g0 g1 g2
  replace g0' := hidI g0'
  replace g1' := hidI g1'
  replace g2' := hidI g2'
  go_wp2
  go_loopg [7] nl (fun g ii wr => ∃ i : Nat, i + g = nl ∧ ii = .int .i64 (i : Int) ∧ Hid (reAll r s es l i = true) ∧ Hid (∃ v', MSt wr X w1.heap.size r (reSt r s es l i).1 v' (reSt r s es l i).2) ∧ Hid (Below X w3 wr) ∧ Hid (-9223372036854775808 ≤ (reSt r s es l i).1 ∧ (reSt r s es l i).1 ≤ 9223372036854775807))
  case atStart => exact ⟨0, by omega, by simp, hra0, hst0, hkb0, hidI hs⟩
  case round =>
    clear hst0 hkb0 hra0
    obtain ⟨i, hi, rfl, hra, hst, hkb, hsb⟩ := hrel
    obtain ⟨v6, hP⟩ := hst.out
    obtain ⟨T, hT⟩ : ∃ T, T = reSt r s es l i := ⟨_, rfl⟩
    have hTl := reSt_len r s es l i
    have hreo : reOk r s es l i = (okM r T.1 T.2 (l.getD i zeroF) && decide (l.getD i zeroF ∈ foldsF T.2)) := by rw [hT]; rfl
    have hnx : reSt r s es l (i + 1) = (mrS r T.1 T.2 (l.getD i zeroF), mrE r T.1 T.2 (l.getD i zeroF)) := by rw [reSt, ← hT]
    rw [← hT] at hP hTl hsb
    obtain ⟨sz, E⟩ := T
    simp only at hP hTl hreo hnx hsb
    obtain ⟨av, cv, rfl⟩ := hP.form
    have hXr : X < wr.heap.size := by have := hkb.out.size; omega
    have hbr : Below w.heap.size w wr := hb03.out.trans (hkb.out.mono (by omega))
    have hbr1 : Below w1.heap.size w1 wr := hb13.out.trans (hkb.out.mono (by omega))
    obtain ⟨m, hm⟩ : ∃ m, m = E.length := ⟨_, rfl⟩
    have hbox := hP.1
    have x0 := cell_of_heap hbox 0
    have x1 := cell_of_heap hbox 1
    have x2 := cell_of_heap hbox 2
    simp at x0 x1 x2
    rw [← hm] at x2
    have hEl : E.length ≤ 1048576 := by have := hn.out; omega
    replace hm := hidI hm
    replace hT := hidI hT
    replace hbox := hidI hbox
    replace hreo := hidI hreo
    replace hnx := hidI hnx
    replace hi := hidI hi
    clear hst
    by_cases hlt : i < nl
    · have hii : (i : Int) < (nl : Int) := by omega
      obtain ⟨b, off, hab, hBb, c0, c1⟩ := ReadF.cells (hf0.out.below hbr) i (by have := hnl.out; omega)
      subst hab
      obtain ⟨⟨k, d⟩, hkd⟩ : ∃ f, f = l.getD i zeroF := ⟨_, rfl⟩
      rw [← hkd] at c0 c1
      simp only at c0 c1
      have hreo2 := hreo.out
      have hnx2 := hnx.out
      rw [← hkd] at hreo2 hnx2
      have hpf := specFolds wr r sz _ E hP.read (by omega)
      obtain ⟨FF, hFF⟩ : ∃ z, z = foldsF E := ⟨_, rfl⟩
      rw [← hFF, ← hm.out] at hpf
      have hFl : FF.length ≤ 2199023255552 := by
        have h1 := foldsF_length E
        have : E.length * E.length ≤ 1048576 * 1048576 := Nat.mul_le_mul hEl hEl
        rw [hFF]; omega
      rw [← hFF] at hreo2
      replace hFF := hidI hFF
      replace hkd := hidI hkd
      replace hreo2 := hidI hreo2
      replace hnx2 := hidI hnx2
      replace hP := hidI hP
      have hbr' := hidI hbr
      have hbr1' := hidI hbr1
      clear hbr hbr1
      go_wp2_with fail
      refine hpf.mono ?_
      rintro e w7 ⟨aL, cL, rfl, hrow7, hb7⟩
      clear hpf
      have hs7 := hb7.size
      have hrd7 : ReadF w7.heap.size w7 (.slice aL FF.length cL) FF := hrow7.read
      replace x0 := below_cell x0 hb7 hXr
      replace x1 := below_cell x1 hb7 hXr
      replace x2 := below_cell x2 hb7 hXr
      have hbl : b < wr.heap.size := by have := hbr'.out.size; omega
      replace c0 := below_cell c0 hb7 hbl
      replace c1 := below_cell c1 hb7 hbl
      have hP7 := hidI (hP.out.below hXr hb7)
      have hkb7 := hidI (hkb.out.trans (hb7.mono (Nat.le_of_lt hXr)))
      have hbr7 := hidI (hbr'.out.trans (hb7.mono hbr'.out.size))
      have hbr17 := hidI (hbr1'.out.trans (hb7.mono hbr1'.out.size))
      obtain ⟨nF, hnF⟩ : ∃ z, z = FF.length := ⟨_, rfl⟩
      rw [← hnF] at hrd7 hrow7 hFl ⊢
      have hX7 : X < w7.heap.size := by omega
      have hw70 : Hid (∃ m, w7 = w7.drewN m) := hidI ⟨0, rfl⟩
      have hc0 : Hid (decide ((k, d) ∈ FF.take 0) = false) := hidI (by simp)
      replace hrow7 := hidI hrow7
      replace hrd7 := hidI hrd7
      replace hb7 := hidI hb7
      replace hnF := hidI hnF
      go_wp2
      go_loopg [8, 10] nF (fun g fv kk wq => ∃ (j : Nat) (C : Bool), j + g = nF ∧ kk = .int .i64 (j : Int) ∧ fv = .bool C ∧ Hid (decide ((k, d) ∈ FF.take j) = C) ∧ Hid (∃ m, wq = w7.drewN m))
      case atStart => exact ⟨0, false, by omega, by simp, rfl, hc0, hw70⟩
      case round =>
        clear hw70 hc0
        obtain ⟨j, C, hj, rfl, rfl, hC, hwq⟩ := hrel
        obtain ⟨mq, hwq'⟩ := hwq.out
        subst hwq'
        by_cases hjl : j < nF
        · have hji : (j : Int) < (nF : Int) := by omega
          obtain ⟨b', off', haL, hBb', d0, d1⟩ := ReadF.cells hrd7.out j (by have := hnF.out; omega)
          subst haL
          obtain ⟨⟨k', d'⟩, hkd'⟩ : ∃ f, f = FF.getD j zeroF := ⟨_, rfl⟩
          rw [← hkd'] at d0 d1
          simp only at d0 d1
          have hCn := take_mem (show j < FF.length by have := hnF.out; omega) (k, d)
          rw [hC.out, ← hkd'] at hCn
          replace hj := hidI hj
          replace hkd' := hidI hkd'
          replace hCn := hidI hCn
          cases C with
          | true =>
            have hC9 : Hid (decide ((k, d) ∈ FF.take (j + 1)) = true) := hidI (by rw [hCn.out]; rfl)
            replace hC := hidI hC.out
            go_wp2
            go_quiet (fail)
            go_wp2
            go_roundg (nF - (j + 1))
            case rel => exact ⟨j + 1, true, by have := hj.out; omega, by go_num, rfl, hC9, hidI ⟨_, rfl⟩⟩
            case measure => have := hj.out; omega
          | false =>
            by_cases q1 : k = k'
            · by_cases q2 : d = d'
              · have hC9 : Hid (decide ((k, d) ∈ FF.take (j + 1)) = true) := hidI (by rw [hCn.out, q1, q2]; simp)
                subst q1 q2
                replace hC := hidI hC.out
                go_wp2
                go_quiet (fail)
                go_wp2
                go_roundg (nF - (j + 1))
                case rel => exact ⟨j + 1, true, by have := hj.out; omega, by go_num, rfl, hC9, hidI ⟨_, rfl⟩⟩
                case measure => have := hj.out; omega
              · have hC9 : Hid (decide ((k, d) ∈ FF.take (j + 1)) = false) := hidI (by rw [hCn.out]; simp [q2])
                have u1 : (d == d') = false := by rw [beq_eq_false_iff_ne]; exact q2
                have u2 : (d' == d) = false := by rw [beq_eq_false_iff_ne]; exact fun e => q2 e.symm
                subst q1
                replace q2 := hidI q2
                replace hC := hidI hC.out
                go_wp2
                go_quiet (fail)
                go_wp2
                go_roundg (nF - (j + 1))
                case rel => exact ⟨j + 1, false, by have := hj.out; omega, by go_num, rfl, hC9, hidI ⟨_, rfl⟩⟩
                case measure => have := hj.out; omega
            · have hC9 : Hid (decide ((k, d) ∈ FF.take (j + 1)) = false) := hidI (by rw [hCn.out]; simp [q1])
              have u1 : (k == k') = false := by rw [beq_eq_false_iff_ne]; exact q1
              have u2 : (k' == k) = false := by rw [beq_eq_false_iff_ne]; exact fun e => q1 e.symm
              replace q1 := hidI q1
              replace hC := hidI hC.out
              go_wp2
              go_quiet (fail)
              go_wp2
              go_roundg (nF - (j + 1))
              case rel => exact ⟨j + 1, false, by have := hj.out; omega, by go_num, rfl, hC9, hidI ⟨_, rfl⟩⟩
              case measure => have := hj.out; omega
        · obtain rfl : j = nF := by omega
          have hji : ¬ (j : Int) < (j : Int) := by omega
          have hCF : decide ((k, d) ∈ FF) = C := by
            have := hC.out
            rw [List.take_of_length_le (by have := hnF.out; omega)] at this
            exact this
          obtain ⟨wb, hwb⟩ : ∃ z, z = w7.drewN mq := ⟨_, rfl⟩
          have hbb : Below w7.heap.size w7 wb := by rw [hwb]; exact below_dn (Below.refl _ _) mq
          have hsb7 : wb.heap.size = w7.heap.size := by rw [hwb]; rfl
          have hlb7 : b < w7.heap.size := by omega
          replace x0 := below_cell x0 hbb hX7
          replace x1 := below_cell x1 hbb hX7
          replace x2 := below_cell x2 hbb hX7
          replace c0 := below_cell c0 hbb hlb7
          replace c1 := below_cell c1 hbb hlb7
          have hPb := hidI (hP7.out.below hX7 hbb)
          have hkb := hidI (hkb7.out.trans (hbb.mono (Nat.le_of_lt hX7)))
          have hbrb := hidI (hbr7.out.trans (hbb.mono hbr7.out.size))
          have hbrb1 := hidI (hbr17.out.trans (hbb.mono hbr17.out.size))
          have hXb : X < wb.heap.size := by omega
          have hlb : b < wb.heap.size := by omega
          obtain ⟨u, hu⟩ : ∃ z, z = wb.drew := ⟨_, rfl⟩
          have hbu : Below wb.heap.size wb u := by rw [hu]; exact below_dn (Below.refl _ _) 1
          have hsu : u.heap.size = wb.heap.size := by rw [hu]; rfl
          have hsu1 : wb.heap.size ≤ u.heap.size ∧ u.heap.size ≤ wb.heap.size := by omega
          replace hsu := hidI hsu
          have y0 := below_cell x0 hbu hXb
          have y1 := below_cell x1 hbu hXb
          have y2 := below_cell x2 hbu hXb
          have y3 := below_cell c0 hbu hlb
          have y4 := below_cell c1 hbu hlb
          have hXu : X < u.heap.size := by omega
          have hlu : b < u.heap.size := by omega
          have hPu : MSt u X w1.heap.size r sz (.slice av E.length cv) E := hPb.out.below hXb hbu
          obtain ⟨ME, hME⟩ : ∃ z, z = mrE r sz E (k, d) := ⟨_, rfl⟩
          obtain ⟨MS, hMS⟩ : ∃ z, z = mrS r sz E (k, d) := ⟨_, rfl⟩
          obtain ⟨OB, hOB⟩ : ∃ z, z = okM r sz E (k, d) := ⟨_, rfl⟩
          have hcall := fun (W : World) (hW : Below u.heap.size u W) => specMerge W r sz k d (.slice av E.length cv) E ((hPu.read.below hW).mono hW.size) hsb.out (by omega)
          rw [← hm.out, ← hME, ← hMS, ← hOB] at hcall
          have hre : reOk r s es l i = (OB && C) := by rw [hreo2.out, ← hOB, hCF]
          have hnx3 : reSt r s es l (i + 1) = (MS, ME) := by rw [hnx2.out, ← hME, ← hMS]
          have hMSb : -9223372036854775808 ≤ MS ∧ MS ≤ 9223372036854775807 := by
            rw [hMS]
            unfold mrS
            split
            · rename_i h2
              have h3 := (isGr_iff.1 (okM_iff.1 h2).1).2.2.2
              omega
            · exact hsb.out
          obtain ⟨mm, hmm⟩ : ∃ z, z = ME.length := ⟨_, rfl⟩
          replace hmm := hidI hmm
          replace hre := hidI hre
          replace hnx3 := hidI hnx3
          replace hMSb := hidI hMSb
          replace hCF := hidI hCF
          replace hC := hidI hC
          replace hwb := hidI hwb
          replace hbb := hidI hbb
          replace hsb7 := hidI hsb7
          replace hbu := hidI hbu
          replace hME := hidI hME
          replace hMS := hidI hMS
          replace hOB := hidI hOB
          replace hPu := hidI hPu
          replace hu := hidI hu
          replace hcall := hidI hcall
          replace hj := hidI hj
          replace hwq := hidI hwq
          go_wp2_with fail
          rw [← hwb.out]
          go_cut [11, 12] from 41 to 49 (fun yv iv wx => ∃ (B' lo hi : Nat) (a' : Option Addr) (c' : Nat), yv = .pointer (some ⟨B', 0, none⟩) ∧ iv = .bool OB ∧ BoxRel wb r MS ME B' lo hi a' c' wx)
          case first =>
            refine hideQ (fun _ _ d _ _ h => by cases d <;> exact h) (fun Q' hnorm hpan => ?_)
            refine wp_region_held_drew (S := (fun z => z.cell? ⟨X, 0, none⟩ = some (.int .i64 r) ∧ z.cell? ⟨X, 1, none⟩ = some (.int .i64 sz) ∧ z.cell? ⟨X, 2, none⟩ = some (.slice av m cv) ∧ z.cell? ⟨b, off + i * 2, none⟩ = some (.int .i64 k) ∧ z.cell? ⟨b, off + i * 2 + 1, none⟩ = some (.int .i64 d))) (by kernel_rfl) ?_ (fun hHeld => ?_)
            · try dsimp only
              rw [← hu.out]
              ((repeat' apply And.intro) <;> assumption)
            rw [← hu.out] at hHeld ⊢
            refine tk 0 42 ?_
            refine tk 1 43 ?_
            refine tk 2 44 ?_
            refine tk 3 45 ?_
            refine tk 4 46 ?_
            refine wpAnyH_ready (rs := [5, 9]) (by kernel_rfl) (by simp) ?_
            refine AllReadyH.cons rfl (fun Kz hK => ?_) ?_
            ·
              rw [if_pos (by rfl)]
              go_simp
              go_at_call 18
              (with_reducible refine (hcall.out u (Below.refl _ _)).mono ?_)
              rintro e w8 ⟨a8, c8, rfl, hrow8, hb8⟩
              have hs8 := hb8.size
              rw [← hmm.out]
              replace y0 := below_cell y0 hb8 (by omega)
              replace y1 := below_cell y1 hb8 (by omega)
              replace y2 := below_cell y2 hb8 (by omega)
              replace y3 := below_cell y3 hb8 (by omega)
              replace y4 := below_cell y4 hb8 (by omega)
              refine hK.out _ _ ?_ (fun hHeld => ?_)
              · try dsimp only
                ((repeat' apply And.intro) <;> assumption)
              clear hK
              try simp only [Act.put, List.setIfInBounds_toArray, List.set_cons_zero, List.set_cons_succ]
              refine tk 6 41 ?_
              refine tk 7 48 ?_
              refine tk 8 49 ?_
              refine wpAnyH_ready (rs := [9]) (by kernel_rfl) (by simp) ?_
              refine AllReadyH.cons rfl (fun Kz hK => ?_) AllReadyH.nil
              rw [if_pos (by rfl)]
              go_simp
              obtain ⟨w9, hn9⟩ : ∃ z, z = w8.alloc (.cells #[.int .i64 0, .int .i64 0, .slice none 0 0] 26) := ⟨_, rfl⟩
              have hb9 : Below w8.heap.size w8 w9 := by rw [hn9]; exact (Below.refl _ _).alloc (Nat.le_refl _) _
              have hs9 : w9.heap.size = w8.heap.size + 1 := by rw [hn9]; simp
              have hBA : w9.heap[w8.heap.size]? = some (.cells #[.int .i64 0, .int .i64 0, .slice none 0 0] 26 (0, 0)) := by rw [hn9]; exact heap_alloc_new _ _
              replace y0 := below_cell y0 hb9 (by omega)
              replace y1 := below_cell y1 hb9 (by omega)
              replace y2 := below_cell y2 hb9 (by omega)
              replace y3 := below_cell y3 hb9 (by omega)
              replace y4 := below_cell y4 hb9 (by omega)
              rw [← hn9]
              replace hn9 := hidI hn9
              obtain ⟨BB, hBB⟩ : ∃ z, z = w8.heap.size := ⟨_, rfl⟩
              rw [← hBB] at hBA ⊢
              have hBB2 : BB ≤ w8.heap.size ∧ w8.heap.size ≤ BB := by omega
              replace hBB := hidI hBB
              refine hK.out _ _ ?_ (fun hHeld => ?_)
              · try dsimp only
                ((repeat' apply And.intro) <;> assumption)
              clear hK
              try simp only [Act.put, List.setIfInBounds_toArray, List.set_cons_zero, List.set_cons_succ]
              refine wpAnyH_ready (rs := [10]) (by kernel_rfl) (by simp) ?_
              refine AllReadyH.cons rfl (fun Kz hK => ?_) AllReadyH.nil
              rw [if_pos (by rfl)]
              have z0 := cell_of_heap hBA 0
              have z1 := cell_of_heap hBA 1
              have z2 := cell_of_heap hBA 2
              have fz := fun j => frozen_of_row w9 BB j _ _ hBA
              simp at z0 z1 z2
              obtain ⟨w10, hn10⟩ : ∃ z, z = ((w9.setCell ⟨BB, 0, none⟩ (.int .i64 r)).setCell ⟨BB, 1, none⟩ (.int .i64 MS)).setCell ⟨BB, 2, none⟩ (.slice a8 mm c8) := ⟨_, rfl⟩
              replace y0 : w10.cell? ⟨X, 0, none⟩ = some (.int .i64 r) := by rw [hn10, World.cell?_of_block (heap_set3 (show X ≠ BB by omega))]; exact y0
              replace y1 : w10.cell? ⟨X, 1, none⟩ = some (.int .i64 sz) := by rw [hn10, World.cell?_of_block (heap_set3 (show X ≠ BB by omega))]; exact y1
              replace y2 : w10.cell? ⟨X, 2, none⟩ = some (.slice av m cv) := by rw [hn10, World.cell?_of_block (heap_set3 (show X ≠ BB by omega))]; exact y2
              replace y3 : w10.cell? ⟨b, off + i * 2, none⟩ = some (.int .i64 k) := by rw [hn10, World.cell?_of_block (heap_set3 (show b ≠ BB by omega))]; exact y3
              replace y4 : w10.cell? ⟨b, off + i * 2 + 1, none⟩ = some (.int .i64 d) := by rw [hn10, World.cell?_of_block (heap_set3 (show b ≠ BB by omega))]; exact y4
              have hrel : BoxRel wb r MS ME BB wb.heap.size w8.heap.size a8 c8 w10 := by
                rw [hn10]
                rw [hmm.out]
                exact ⟨by omega, by rw [size_set3]; omega, set3 hBA _ _ _, Nat.le_refl _, by rw [size_set3]; omega, by omega, .inr (by omega), (((by have h1 := hrow8; rw [hsu.out] at h1; exact h1) : RowS 55 3 w8 wb.heap.size w8.heap.size (.slice a8 ME.length c8) ME.length (flatE ME)).below hb9 (Nat.le_refl _)).set3_ (.inr (by omega)), below_set3 (hbu.out.trans ((hb8.mono (by omega)).trans (hb9.mono (by omega)))) (by omega)⟩
              replace hrel := hidI hrel
              replace hn10 := hidI hn10
              replace hBA := hidI hBA
              go_simp
              rw [← hn10.out]
              clear z0 z1 z2 fz
              refine hK.out _ _ ?_ (fun hHeld => ?_)
              · try dsimp only
                ((repeat' apply And.intro) <;> assumption)
              clear hK
              try simp only [Act.put, List.setIfInBounds_toArray, List.set_cons_zero, List.set_cons_succ]
              refine tk 11 12 ?_
              refine wpAnyH_done (by kernel_rfl) ?_ _
              refine hnorm _ _ ?_
              clear hnorm hpan
              repeat clear hHeld
              try simp only [Exit.then]
              go_wp2_with fail
              go_meet
              exact ⟨_, _, _, _, _, rfl, rfl, hrel.out⟩
            refine AllReadyH.cons rfl (fun Kz hK => ?_) AllReadyH.nil
            rw [if_pos (by rfl)]
            go_simp
            obtain ⟨w8, hn9⟩ : ∃ z, z = u.alloc (.cells #[.int .i64 0, .int .i64 0, .slice none 0 0] 26) := ⟨_, rfl⟩
            have hb9 : Below u.heap.size u w8 := by rw [hn9]; exact (Below.refl _ _).alloc (Nat.le_refl _) _
            have hs9 : w8.heap.size = u.heap.size + 1 := by rw [hn9]; simp
            have hBA : w8.heap[u.heap.size]? = some (.cells #[.int .i64 0, .int .i64 0, .slice none 0 0] 26 (0, 0)) := by rw [hn9]; exact heap_alloc_new _ _
            replace y0 := below_cell y0 hb9 (by omega)
            replace y1 := below_cell y1 hb9 (by omega)
            replace y2 := below_cell y2 hb9 (by omega)
            replace y3 := below_cell y3 hb9 (by omega)
            replace y4 := below_cell y4 hb9 (by omega)
            rw [← hn9]
            replace hn9 := hidI hn9
            obtain ⟨BB, hBB⟩ : ∃ z, z = u.heap.size := ⟨_, rfl⟩
            rw [← hBB] at hBA ⊢
            have hBB2 : BB ≤ u.heap.size ∧ u.heap.size ≤ BB := by omega
            replace hBB := hidI hBB
            refine hK.out _ _ ?_ (fun hHeld => ?_)
            · try dsimp only
              ((repeat' apply And.intro) <;> assumption)
            clear hK
            try simp only [Act.put, List.setIfInBounds_toArray, List.set_cons_zero, List.set_cons_succ]
            refine wpAnyH_ready (rs := [5]) (by kernel_rfl) (by simp) ?_
            refine AllReadyH.cons rfl (fun Kz hK => ?_) AllReadyH.nil
            rw [if_pos (by rfl)]
            go_simp
            go_at_call 18
            (with_reducible refine (hcall.out w8 hb9).mono ?_)
            rintro e w9 ⟨a8, c8, rfl, hrow8, hb8⟩
            have hs8 := hb8.size
            rw [← hmm.out]
            replace y0 := below_cell y0 hb8 (by omega)
            replace y1 := below_cell y1 hb8 (by omega)
            replace y2 := below_cell y2 hb8 (by omega)
            replace y3 := below_cell y3 hb8 (by omega)
            replace y4 := below_cell y4 hb8 (by omega)
            have hBA9 := (hb8.block BB (by omega)).trans hBA
            replace hBA := hidI hBA
            clear hBA
            have hBA := hBA9
            clear hBA9
            refine hK.out _ _ ?_ (fun hHeld => ?_)
            · try dsimp only
              ((repeat' apply And.intro) <;> assumption)
            clear hK
            try simp only [Act.put, List.setIfInBounds_toArray, List.set_cons_zero, List.set_cons_succ]
            refine tk 6 41 ?_
            refine tk 7 48 ?_
            refine tk 8 49 ?_
            refine wpAnyH_ready (rs := [10]) (by kernel_rfl) (by simp) ?_
            refine AllReadyH.cons rfl (fun Kz hK => ?_) AllReadyH.nil
            rw [if_pos (by rfl)]
            have z0 := cell_of_heap hBA 0
            have z1 := cell_of_heap hBA 1
            have z2 := cell_of_heap hBA 2
            have fz := fun j => frozen_of_row w9 BB j _ _ hBA
            simp at z0 z1 z2
            obtain ⟨w10, hn10⟩ : ∃ z, z = ((w9.setCell ⟨BB, 0, none⟩ (.int .i64 r)).setCell ⟨BB, 1, none⟩ (.int .i64 MS)).setCell ⟨BB, 2, none⟩ (.slice a8 mm c8) := ⟨_, rfl⟩
            replace y0 : w10.cell? ⟨X, 0, none⟩ = some (.int .i64 r) := by rw [hn10, World.cell?_of_block (heap_set3 (show X ≠ BB by omega))]; exact y0
            replace y1 : w10.cell? ⟨X, 1, none⟩ = some (.int .i64 sz) := by rw [hn10, World.cell?_of_block (heap_set3 (show X ≠ BB by omega))]; exact y1
            replace y2 : w10.cell? ⟨X, 2, none⟩ = some (.slice av m cv) := by rw [hn10, World.cell?_of_block (heap_set3 (show X ≠ BB by omega))]; exact y2
            replace y3 : w10.cell? ⟨b, off + i * 2, none⟩ = some (.int .i64 k) := by rw [hn10, World.cell?_of_block (heap_set3 (show b ≠ BB by omega))]; exact y3
            replace y4 : w10.cell? ⟨b, off + i * 2 + 1, none⟩ = some (.int .i64 d) := by rw [hn10, World.cell?_of_block (heap_set3 (show b ≠ BB by omega))]; exact y4
            have hrel : BoxRel wb r MS ME BB w8.heap.size w9.heap.size a8 c8 w10 := by
              rw [hn10]
              rw [hmm.out]
              exact ⟨by omega, by rw [size_set3]; omega, set3 hBA _ _ _, by omega, by rw [size_set3]; exact Nat.le_refl _, by omega, .inl (by omega), hrow8.set3_ (.inl (by omega)), below_set3 (hbu.out.trans ((hb9.mono (by omega)).trans (hb8.mono (by omega)))) (by omega)⟩
            replace hrel := hidI hrel
            replace hn10 := hidI hn10
            replace hBA := hidI hBA
            go_simp
            rw [← hn10.out]
            clear z0 z1 z2 fz
            refine hK.out _ _ ?_ (fun hHeld => ?_)
            · try dsimp only
              ((repeat' apply And.intro) <;> assumption)
            clear hK
            try simp only [Act.put, List.setIfInBounds_toArray, List.set_cons_zero, List.set_cons_succ]
            refine tk 11 12 ?_
            refine wpAnyH_done (by kernel_rfl) ?_ _
            refine hnorm _ _ ?_
            clear hnorm hpan
            repeat clear hHeld
            try simp only [Exit.then]
            go_wp2_with fail
            go_meet
            exact ⟨_, _, _, _, _, rfl, rfl, hrel.out⟩
          obtain ⟨w9, rfl⟩ : ∃ z, z = wc := ⟨_, rfl⟩
          obtain ⟨BB, lo, hi', a8, c8, rfl, rfl, hrel⟩ := hcut
          obtain ⟨r1, r2, r3, r4, r5, r6, r7, r8, r9⟩ := hrel
          have hrel : BoxRel wb r MS ME BB lo hi' a8 c8 w9 := ⟨r1, r2, r3, r4, r5, r6, r7, r8, r9⟩
          rw [← hmm.out] at r3
          have b0 := cell_of_heap r3 0
          have b1 := cell_of_heap r3 1
          have b2 := cell_of_heap r3 2
          simp at b0 b1 b2
          have hX9 : w9.heap[X]? = _ := (r9.block X hXb).trans hPb.out.1
          have v0 := cell_of_heap hX9 0
          have v1 := cell_of_heap hX9 1
          have v2 := cell_of_heap hX9 2
          have fv := fun j => frozen_of_row w9 X j _ _ hX9
          simp at v0 v1 v2
          have hb9 : Below w.heap.size w w9 := hbrb.out.trans (r9.mono hbrb.out.size)
          have hb19 : Below w1.heap.size w1 w9 := hbrb1.out.trans (r9.mono hbrb1.out.size)
          have q0 := below_cell g0'.out (hkb.out.trans (r9.mono (by omega))) (by omega)
          have q1 := below_cell g1'.out (hkb.out.trans (r9.mono (by omega))) (by omega)
          have q2 := below_cell g2'.out (hkb.out.trans (r9.mono (by omega))) (by omega)
          have hst9 : Hid (∃ v', MSt (((w9.setCell ⟨X, 0, none⟩ (.int .i64 r)).setCell ⟨X, 1, none⟩ (.int .i64 MS)).setCell ⟨X, 2, none⟩ (.slice a8 mm c8)) X w1.heap.size r (reSt r s es l (i + 1)).1 v' (reSt r s es l (i + 1)).2) := hidI ⟨.slice a8 mm c8, by
            have h1 := hPb.out.stored hXb (by omega) hrel
            rw [hnx3.out, hmm.out]; exact h1⟩
          have hk9 : Hid (Below X w3 (((w9.setCell ⟨X, 0, none⟩ (.int .i64 r)).setCell ⟨X, 1, none⟩ (.int .i64 MS)).setCell ⟨X, 2, none⟩ (.slice a8 mm c8))) := hidI ((((hkb.out.trans (r9.mono (by omega))).setCell (p := ⟨X, 0, none⟩) (Nat.le_refl _) _).setCell (p := ⟨X, 1, none⟩) (Nat.le_refl _) _).setCell (p := ⟨X, 2, none⟩) (Nat.le_refl _) _)
          have hsb9 : Hid (-9223372036854775808 ≤ (reSt r s es l (i + 1)).1 ∧ (reSt r s es l (i + 1)).1 ≤ 9223372036854775807) := hidI (by rw [hnx3.out]; exact hMSb.out)
          have hno : (OB && C) = false → ZB = false ∧ ZS = s ∧ ZE = es := fun hf => hnall.out (reAll_not hlt (by rw [hre.out]; exact hf))
          replace hrel := hidI hrel
          replace r3 := hidI r3
          replace r8 := hidI r8
          replace r9 := hidI r9
          replace hX9 := hidI hX9
          clear x0 x1 x2 c0 c1 y0 y1 y2 y3 y4
          cases OB with
          | false =>
            have h0_ := hno rfl
            have hbx0 := hb9
            have hbx1 := hb19
            replace hno := hidI hno
            replace hre := hidI hre.out
            replace hOB := hidI hOB.out
            replace hb9 := hidI hb9
            replace hb19 := hidI hb19
            clear b0 b1 b2 v0 v1 v2 fv
            obtain ⟨hZB0, hZS0, hZE0⟩ := h0_
            have hcc := hcopy.out w9 ((h.out.below hbx0).mono (hbx0).size)
            have hsW : w1.heap.size ≤ w9.heap.size := (hbx1).size
            have hbWx := hbx0
            have hbWy := hbx1
            replace hZS0 := hidI hZS0
            replace hZE0 := hidI hZE0
            replace hZB0 := hidI hZB0
            replace hbWx := hidI hbWx
            replace hbWy := hidI hbWy
            go_wp2_with fail
            refine hcc.mono ?_
            rintro e w5 ⟨ca, cc, rfl, hrow, hb5⟩
            rw [← hn.out]
            rw [← hn.out] at hrow
            clear hcc
            have hb15 : Below w.heap.size w w5 := hbWx.out.trans (hb5.mono hbWx.out.size)
            have hR5 := hRk.out w5 (hbWy.out.trans (hb5.mono hsW))
            have hs25 := hb5.size
            have y0 := cell_of_heap hR5 0
            have y1 := cell_of_heap hR5 1
            have y2 := cell_of_heap hR5 2
            have f2 := fun j => frozen_of_row w5 (w.heap.size + 1) j _ _ hR5
            simp at y0 y1 y2
            have hfin : LwGraphBool w r s es false (.returned (.tuple #[.agg #[.int .i64 r, .int .i64 s, .slice ca n cc], .bool false])) (((w5.setCell ⟨w.heap.size + 1, 0, none⟩ (.int .i64 r)).setCell ⟨w.heap.size + 1, 1, none⟩ (.int .i64 s)).setCell ⟨w.heap.size + 1, 2, none⟩ (.slice ca n cc)) := by
              have hrw := hrow
              rw [hn.out] at hrw
              rw [hn.out]
              exact ⟨ca, cc, rfl, (RowS.set3_ hrw (.inl (by omega))).wide (by omega) (by rw [size_set3]; exact Nat.le_refl _), hend.out _ _ _ _ hb15⟩
            have hset := set3 hR5 (.int .i64 r) (.int .i64 s) (.slice ca n cc)
            replace hfin := hidI hfin
            replace hset := hidI hset
            replace hR5 := hidI hR5
            replace hrow := hidI hrow
            replace hb5 := hidI hb5
            replace hb15 := hidI hb15
            go_wp2
            (try simp only [Exit.inBlock, Exit.then])
            refine ret_cell2 (x := .bool false) rfl rfl rfl hset.out Tryz.underlying26 sizeGraph ?_
            rw [hZS0.out, hZE0.out, hZB0.out]
            exact hfin.out
          | true =>
          cases C with
          | false =>
            have h0_ := hno rfl
            have hbx0 := hb9
            have hbx1 := hb19
            replace hno := hidI hno
            replace hre := hidI hre.out
            replace hOB := hidI hOB.out
            replace hCF := hidI hCF.out
            replace hC := hidI hC.out
            replace hb9 := hidI hb9
            replace hb19 := hidI hb19
            clear b0 b1 b2 v0 v1 v2 fv
            obtain ⟨hZB0, hZS0, hZE0⟩ := h0_
            have hcc := hcopy.out w9 ((h.out.below hbx0).mono (hbx0).size)
            have hsW : w1.heap.size ≤ w9.heap.size := (hbx1).size
            have hbWx := hbx0
            have hbWy := hbx1
            replace hZS0 := hidI hZS0
            replace hZE0 := hidI hZE0
            replace hZB0 := hidI hZB0
            replace hbWx := hidI hbWx
            replace hbWy := hidI hbWy
            go_wp2_with fail
            refine hcc.mono ?_
            rintro e w5 ⟨ca, cc, rfl, hrow, hb5⟩
            rw [← hn.out]
            rw [← hn.out] at hrow
            clear hcc
            have hb15 : Below w.heap.size w w5 := hbWx.out.trans (hb5.mono hbWx.out.size)
            have hR5 := hRk.out w5 (hbWy.out.trans (hb5.mono hsW))
            have hs25 := hb5.size
            have y0 := cell_of_heap hR5 0
            have y1 := cell_of_heap hR5 1
            have y2 := cell_of_heap hR5 2
            have f2 := fun j => frozen_of_row w5 (w.heap.size + 1) j _ _ hR5
            simp at y0 y1 y2
            have hfin : LwGraphBool w r s es false (.returned (.tuple #[.agg #[.int .i64 r, .int .i64 s, .slice ca n cc], .bool false])) (((w5.setCell ⟨w.heap.size + 1, 0, none⟩ (.int .i64 r)).setCell ⟨w.heap.size + 1, 1, none⟩ (.int .i64 s)).setCell ⟨w.heap.size + 1, 2, none⟩ (.slice ca n cc)) := by
              have hrw := hrow
              rw [hn.out] at hrw
              rw [hn.out]
              exact ⟨ca, cc, rfl, (RowS.set3_ hrw (.inl (by omega))).wide (by omega) (by rw [size_set3]; exact Nat.le_refl _), hend.out _ _ _ _ hb15⟩
            have hset := set3 hR5 (.int .i64 r) (.int .i64 s) (.slice ca n cc)
            replace hfin := hidI hfin
            replace hset := hidI hset
            replace hR5 := hidI hR5
            replace hrow := hidI hrow
            replace hb5 := hidI hb5
            replace hb15 := hidI hb15
            go_wp2
            (try simp only [Exit.inBlock, Exit.then])
            refine ret_cell2 (x := .bool false) rfl rfl rfl hset.out Tryz.underlying26 sizeGraph ?_
            rw [hZS0.out, hZE0.out, hZB0.out]
            exact hfin.out
          | true =>
            have hra2 : Hid (reAll r s es l (i + 1) = true) := hidI (by rw [reAll, hra.out, hre.out]; rfl)
            replace hno := hidI hno
            replace hre := hidI hre.out
            replace hOB := hidI hOB.out
            replace hCF := hidI hCF.out
            replace hC := hidI hC.out
            replace hb9 := hidI hb9
            replace hb19 := hidI hb19
            clear q0 q1 q2
            go_wp2
            go_roundg (nl - (i + 1))
            case rel => exact ⟨i + 1, by have := hi.out; omega, by go_num, hra2, hst9, hk9, hsb9⟩
            case measure => have := hi.out; omega
    · obtain rfl : i = nl := by have := hi.out; omega
      have hii : ¬ (i : Int) < (i : Int) := by omega
      obtain ⟨hZ0, hZ1, hZ2⟩ := hall.out hra.out
      rw [← hT.out] at hZ1 hZ2
      simp only at hZ1 hZ2
      obtain ⟨u, hu⟩ : ∃ z, z = wr.drew := ⟨_, rfl⟩
      have hbu : Below wr.heap.size wr u := by rw [hu]; exact below_dn (Below.refl _ _) 1
      have hsu : u.heap.size = wr.heap.size := by rw [hu]; rfl
      have y0 := below_cell x0 hbu hXr
      have y1 := below_cell x1 hbu hXr
      have y2 := below_cell x2 hbu hXr
      have y3 := below_cell (below_cell g0'.out hkb.out (by omega)) hbu (by omega)
      have y4 := below_cell (below_cell g1'.out hkb.out (by omega)) hbu (by omega)
      have y5 := below_cell (below_cell g2'.out hkb.out (by omega)) hbu (by omega)
      have hbur : Below w.heap.size w u := hbr.trans (hbu.mono hbr.size)
      have his := hisx.out u ((h.out.below hbur).mono hbur.size)
      have hPu : MSt u X w1.heap.size r sz (.slice av E.length cv) E := hP.below hXr hbu
      have hgl : w.heap.size < u.heap.size := by omega
      have hXu : X < u.heap.size := by omega
      replace hu := hidI hu
      replace hbu := hidI hbu
      replace hbur := hidI hbur
      replace hPu := hidI hPu
      replace hP := hidI hP
      replace hZ0 := hidI hZ0
      replace hZ1 := hidI hZ1
      replace hZ2 := hidI hZ2
      replace hbr := hidI hbr
      go_wp2_with fail
      refine hideQ (fun _ _ d _ _ h => by cases d <;> exact h) (fun Q' hnorm hpan => ?_)
      refine wp_region_held_drew (S := fun z => z.cell? ⟨X, 0, none⟩ = some (.int .i64 r) ∧ z.cell? ⟨X, 1, none⟩ = some (.int .i64 sz) ∧ z.cell? ⟨X, 2, none⟩ = some (.slice av m cv) ∧ z.cell? ⟨w.heap.size, 0, none⟩ = some (.int .i64 r) ∧ z.cell? ⟨w.heap.size, 1, none⟩ = some (.int .i64 s) ∧ z.cell? ⟨w.heap.size, 2, none⟩ = some (.slice a n cap)) (by kernel_rfl) ?_ (fun hHeld => ?_)
      · try dsimp only
        rw [← hu.out]
        ((repeat' apply And.intro) <;> assumption)
      rw [← hu.out] at hHeld ⊢
      refine tk 0 59 ?_
      refine tk 1 60 ?_
      refine wpAnyH_ready (rs := [2]) (by kernel_rfl) (by simp) ?_
      refine AllReadyH.cons rfl (fun Kz hK => ?_) AllReadyH.nil
      rw [if_pos (by rfl)]
      go_simp
      go_at_call 11
      (with_reducible refine his.mono ?_)
      rintro e w9 ⟨rfl, hb9⟩
      have hs9 := hb9.size
      replace y0 := below_cell y0 hb9 (by omega)
      replace y1 := below_cell y1 hb9 (by omega)
      replace y2 := below_cell y2 hb9 (by omega)
      replace y3 := below_cell y3 hb9 (by omega)
      replace y4 := below_cell y4 hb9 (by omega)
      replace y5 := below_cell y5 hb9 (by omega)
      have hb09 : Below w.heap.size w w9 := hbur.out.trans (hb9.mono hbur.out.size)
      have hR9 := hRk.out w9 (hbr1.trans ((hbu.out.mono hbr1.size).trans (hb9.mono (by have := hbr1.size; omega))))
      have z0 := cell_of_heap hR9 0
      have z1 := cell_of_heap hR9 1
      have z2 := cell_of_heap hR9 2
      have f2 := fun j => frozen_of_row w9 (w.heap.size + 1) j _ _ hR9
      simp at z0 z1 z2
      have hfin := mst_fin (w := w) (w9 := w9) (X := X) (R := w.heap.size + 1) (base := w1.heap.size) (cap := cv) (r := r) (s' := sz) (E := E) (b := B) (a := av) (by omega) (by omega) hb09 (hPu.out.below hXu hb9)
      rw [← hm.out] at hfin
      obtain ⟨w10, hn10⟩ : ∃ z, z = ((w9.setCell ⟨w.heap.size + 1, 0, none⟩ (.int .i64 r)).setCell ⟨w.heap.size + 1, 1, none⟩ (.int .i64 sz)).setCell ⟨w.heap.size + 1, 2, none⟩ (.slice av m cv) := ⟨_, rfl⟩
      have hset := set3 hR9 (.int .i64 r) (.int .i64 sz) (.slice av m cv)
      rw [← hn10] at hfin hset
      have t0 : w10.cell? ⟨X, 0, none⟩ = some (.int .i64 r) := by rw [hn10, World.cell?_of_block (heap_set3 (show X ≠ w.heap.size + 1 by omega))]; exact y0
      have t1 : w10.cell? ⟨X, 1, none⟩ = some (.int .i64 sz) := by rw [hn10, World.cell?_of_block (heap_set3 (show X ≠ w.heap.size + 1 by omega))]; exact y1
      have t2 : w10.cell? ⟨X, 2, none⟩ = some (.slice av m cv) := by rw [hn10, World.cell?_of_block (heap_set3 (show X ≠ w.heap.size + 1 by omega))]; exact y2
      have t3 : w10.cell? ⟨w.heap.size, 0, none⟩ = some (.int .i64 r) := by rw [hn10, World.cell?_of_block (heap_set3 (show w.heap.size ≠ w.heap.size + 1 by omega))]; exact y3
      have t4 : w10.cell? ⟨w.heap.size, 1, none⟩ = some (.int .i64 s) := by rw [hn10, World.cell?_of_block (heap_set3 (show w.heap.size ≠ w.heap.size + 1 by omega))]; exact y4
      have t5 : w10.cell? ⟨w.heap.size, 2, none⟩ = some (.slice a n cap) := by rw [hn10, World.cell?_of_block (heap_set3 (show w.heap.size ≠ w.heap.size + 1 by omega))]; exact y5
      replace hfin := hidI hfin
      replace hset := hidI hset
      replace hR9 := hidI hR9
      replace hn10 := hidI hn10
      replace hb09 := hidI hb09
      replace hb9 := hidI hb9
      refine hK.out _ _ ?_ (fun hHeld => ?_)
      · try dsimp only
        ((repeat' apply And.intro) <;> assumption)
      clear hK
      try simp only [Act.put, List.setIfInBounds_toArray, List.set_cons_zero, List.set_cons_succ]
      refine wpAnyH_ready (rs := [3]) (by kernel_rfl) (by simp) ?_
      refine AllReadyH.cons rfl (fun Kz hK => ?_) AllReadyH.nil
      rw [if_pos (by rfl)]
      go_simp
      rw [← hn10.out]
      clear y0 y1 y2 y3 y4 y5
      refine hK.out _ _ ?_ (fun hHeld => ?_)
      · try dsimp only
        ((repeat' apply And.intro) <;> assumption)
      clear hK
      try simp only [Act.put, List.setIfInBounds_toArray, List.set_cons_zero, List.set_cons_succ]
      refine tk 4 5 ?_
      refine wpAnyH_done (by kernel_rfl) ?_ _
      refine hnorm _ _ ?_
      clear hnorm hpan
      repeat clear hHeld
      try simp only [Exit.then]
      clear t0 t1 t2 t3 t4 t5 z0 z1 z2 f2 x0 x1 x2 his
      go_wp2
      (try simp only [Exit.inBlock, Exit.then])
      refine ret_cell2 (x := .bool B) rfl rfl rfl hset.out Tryz.underlying26 sizeGraph ?_
      rw [hZ0.out, hZ1.out, hZ2.out]
      exact hfin.out
end Go.Proofs.YtgngfffmkjckdaaGreatDoor
