import Derived.Deep.LoopGhost
import Derived.Deep.Cut
import Derived.Test.YtgnomlcjikfdhaaGreatJ18Me
import Derived.Test.YtgnomlcjikfdhaaGreatJ16Me
import Derived.Test.YtgnomlcjikfdhaaGreatJ17Me
import Derived.Test.YtgnomlcjikfdhaaGreatJ0Me
namespace Go.Proofs.YtgnomlcjikfdhaaGreat
open Go.RowKit
set_option linter.unusedVariables false
set_option linter.unusedSimpArgs false
def jd (w : World) (X base : Nat) (r sz : Int) (v : Value) (E : List Ed) (o : Value) (L : List dB) : Prop :=
 w.heap[X]? = some (.cells #[.int .i64 r, .int .i64 sz, v] 26 (0, 0)) ∧ fF w (X + 1) o L ∧
  ∃ lo hi, aF 36 3 w lo hi v E.length (aC E) ∧ base ≤ lo ∧ lo ≤ hi ∧ hi ≤ w.heap.size ∧ (hi ≤ X ∨ X < lo) ∧ ∀ b, o.ownBlock = some b → b < lo ∨ hi ≤ b
theorem jd.form {w : World} {X base : Nat} {r sz : Int} {v o : Value} {E : List Ed} {L : List dB} (h : jd w X base r sz v E o L) : ∃ a c, v = .slice a E.length c := by
 obtain ⟨_, _, lo, hi, ⟨_, _, ⟨h1, h2⟩ | ⟨g, off, cap, cur, h1, _⟩⟩, _⟩ := h
 · exact ⟨none, 0, by rw [h1, h2]⟩
 · exact ⟨_, _, h1⟩
theorem jd.read {w : World} {X base : Nat} {r sz : Int} {v o : Value} {E : List Ed} {L : List dB} (h : jd w X base r sz v E o L) : ay w.heap.size w v E := by
 obtain ⟨_, _, lo, hi, h2, _, _, h4, _⟩ := h; exact h2.read.mono h4
theorem jd.below {w w' : World} {X base : Nat} {r sz : Int} {v o : Value} {E : List Ed} {L : List dB} (h : jd w X base r sz v E o L) (hX : X < w.heap.size) (hb : Below w.heap.size w w') : jd w' X base r sz v E o L := by
 obtain ⟨h1, h0, lo, hi, h2, h3, h3', h4, h5, h6⟩ := h; exact ⟨by rw [hb.block X hX]; exact h1, h0.later hb (nl _), lo, hi, h2.below hb h4, h3, h3', Nat.le_trans h4 hb.size, h5, h6⟩
theorem jd.drew {w : World} {X base : Nat} {r sz : Int} {v o : Value} {E : List Ed} {L : List dB} (h : jd w X base r sz v E o L) : jd w.drew X base r sz v E o L := h
theorem jd.store {w w' : World} {X base : Nat} {r sz sz' : Int} {v v' o : Value} {E E' : List Ed} {L : List dB} (h : jd w X base r sz v E o L) (hX : X < w.heap.size) (hb : Below w.heap.size w w') (hbase : base ≤ w.heap.size) (hr : aF 36 3 w' w.heap.size w'.heap.size v' E'.length (aC E')) :
 jd (((w'.setCell ⟨X, 0, none⟩ (.int .i64 r)).setCell ⟨X, 1, none⟩ (.int .i64 sz')).setCell ⟨X, 2, none⟩ v') X base r sz' v' E' o L := by
 obtain ⟨h1, h0, lo, hi, h2, h3, h3', h4, h5, h6⟩ := h; have hlt := World.ownsRow.lt h0; refine ⟨set3 ((hb.block X hX).trans h1) _ _ _, ?_, w.heap.size, w'.heap.size, hr.set3_ (.inl hX), hbase, hb.size, by rw [aW]; exact nl _, .inr hX, fun b hb' => .inl (hlt b hb').2⟩
 refine (h0.later hb (nl _)).other fun b hb' => dS ?_
 have := (hlt b hb').1; omega
theorem jd.push {w w' : World} {O : Obj} {X base : Nat} {r sz : Int} {v o o' : Value} {E : List Ed} {L L' : List dB} (h : jd w X base r sz v E o L) (hX : X < w.heap.size) (ho : fF w' (X + 1) o' L') (hg : (w.alloc O).grownBy w' o.ownBlock) (hloc : o'.ownBlock = o.ownBlock ∨ o'.ownBlock = some (w.heap.size + 1)) :
 jd w' X base r sz v E o' L' := by
 obtain ⟨h1, h0, lo, hi, h2, h3, h3', h4, h5, h6⟩ := h; have hlt := World.ownsRow.lt h0; have hsz := hg.size; simp at hsz
 refine ⟨?_, ho, lo, hi, h2.keep (fun q q1 q2 => ?_), h3, h3', by omega, h5, fun b hb => ?_⟩
 · rw [hg.block X (by simp; omega) (fun e => by have := (hlt X e.symm).1; omega), heap_alloc_old _ _ hX]; exact h1
 · rw [hg.block q (by simp; omega) (fun e => by have := h6 q e.symm; omega), heap_alloc_old _ _ (by omega)]
 · rcases hloc with e | e
   · exact h6 b (e ▸ hb)
   · have := Option.some.inj (e.symm.trans hb)
     right; omega
theorem Gg {w w9 : World} {X R base cap : Nat} {r s' : Int} {E : List Ed} {L : List dB} {a : Option Addr} {o : Value} (hR : w.heap.size ≤ R) (hRX : R < base) (hRX' : R ≤ X) (hbw : Below w.heap.size w w9) (h : jd w9 X base r s' (.slice a E.length cap) E o L) (hl : L.length ≤ 1000) :
 uD w r s' E L (.returned (.tuple #[.agg #[.int .i64 r, .int .i64 s', .slice a E.length cap], o])) (((w9.setCell ⟨R, 0, none⟩ (.int .i64 r)).setCell ⟨R, 1, none⟩ (.int .i64 s')).setCell ⟨R, 2, none⟩ (.slice a E.length cap)) := by
 obtain ⟨h1, h0, lo, hi, h2, h3, h3', h4, h5, h6⟩ := h; have hrow := bG.row h0 (by omega)
 have hrowg : aF 36 3 (((w9.setCell ⟨R, 0, none⟩ (.int .i64 r)).setCell ⟨R, 1, none⟩ (.int .i64 s')).setCell ⟨R, 2, none⟩ (.slice a E.length cap)) lo hi (.slice a E.length cap) E.length (aC E) := aF.set3_ h2 (.inl (by omega))
 have hrowf : aF 126 2 (((w9.setCell ⟨R, 0, none⟩ (.int .i64 r)).setCell ⟨R, 1, none⟩ (.int .i64 s')).setCell ⟨R, 2, none⟩ (.slice a E.length cap)) (X + 1) w9.heap.size o L.length (ik L) := aF.set3_ hrow (.inl (by omega))
 have hbe := aN (x0 := .int .i64 r) (x1 := .int .i64 s') (x2 := .slice a E.length cap) hbw hR
 rcases h0.2 with ⟨rfl, h00⟩ | ⟨g, cap', cur, rfl, hg1, hg2, _⟩
 · exact ⟨a, cap, _, lo, hi, w.heap.size, w.heap.size, rfl, ⟨by omega, h3', by rw [aW]; exact h4, nl _, nl _, by rw [aW]; have := hbw.size; omega, by omega⟩, hrowg, ⟨by rw [tC], by omega, .inl ⟨rfl, h00⟩⟩, hbe⟩
 · have hgl := (World.ownsRow.lt h0 g rfl).2
   have hrow1 : aF 126 2 (((w9.setCell ⟨R, 0, none⟩ (.int .i64 r)).setCell ⟨R, 1, none⟩ (.int .i64 s')).setCell ⟨R, 2, none⟩ (.slice a E.length cap)) g (g + 1) (.slice (some ⟨g, 0, none⟩) L.length cap') L.length (ik L) := by
    obtain ⟨q1, q2, ⟨q3, q4⟩ | ⟨g', off', cap2, cur', q3, q4, q5, q6, q7, q8⟩⟩ := hrowf
    · cases q3
    · have e := q3
      injection e with e1 _ _
      injection e1 with e1
      injection e1 with e1 _ _
      subst e1; exact ⟨q1, q2, .inr ⟨g, off', cap2, cur', q3, nl _, by omega, q6, q7, q8⟩⟩
   exact ⟨a, cap, _, lo, hi, g, g + 1, rfl, ⟨by omega, h3', by rw [aW]; exact h4, by omega, by omega, by rw [aW]; omega, by have := h6 g rfl; omega⟩, hrowg, hrow1, hbe⟩
set_option maxRecDepth 100000 in
set_option maxHeartbeats 6400000 in
theorem KX (w : World) (r s : Int) (v : Value) (es : List Ed) (h : ay w.heap.size w v es) (hs : -9223372036854775808 ≤ s ∧ s ≤ 9223372036854775807) (hl : es.length ≤ 1048576) :
 Calls Tryz.prog 80 #[.agg #[.int .i64 r, .int .i64 s, v]] w (uD w r (kR r s es) (kQ r s es) (DD r s es)) := by
 obtain ⟨a, cap, rfl, hnc⟩ := h.form; obtain ⟨n, hn⟩ := ag es.length; rw [← hn] at h; rw [← hn] at hl hnc ⊢; obtain ⟨wa, hwa⟩ := ag (w.alloc (.cells #[.int .i64 r, .int .i64 s, .slice a n cap] 26)); obtain ⟨w1, hw1⟩ := ag (wa.alloc (.cells #[.int .i64 0, .int .i64 0, .slice none 0 0] 26)); have hww : (w.alloc (.cells #[.int .i64 r, .int .i64 s, .slice a n cap] 26)).alloc (.cells #[.int .i64 0, .int .i64 0, .slice none 0 0] 26) = w1 := by rw [hw1, hwa]
 have hb1 : Below w.heap.size w w1 := by rw [← hww]; exact ((Below.refl _ _).alloc (nl _) _).alloc (by simp) _
 have hs1 : w1.heap.size = w.heap.size + 1 + 1 := by rw [← hww]; simp
 have hg := dH w (.cells #[.int .i64 r, .int .i64 s, .slice a n cap] 26) (.cells #[.int .i64 0, .int .i64 0, .slice none 0 0] 26); have hR := heap_alloc_new (w.alloc (.cells #[.int .i64 r, .int .i64 s, .slice a n cap] 26)) (.cells #[.int .i64 0, .int .i64 0, .slice none 0 0] 26); rw [hww] at hg hR; rw [show (w.alloc (.cells #[.int .i64 r, .int .i64 s, .slice a n cap] 26)).heap.size = w.heap.size + 1 by simp] at hR
 have g0 : w1.cell? ⟨w.heap.size, 0, none⟩ = some (.int .i64 r) := by simpa using cell_of_heap hg 0
 have g1 : w1.cell? ⟨w.heap.size, 1, none⟩ = some (.int .i64 s) := by simpa using cell_of_heap hg 1
 have g2 : w1.cell? ⟨w.heap.size, 2, none⟩ = some (.slice a n cap) := by simpa using cell_of_heap hg 2
 have hrd1 := (h.below hb1).mono hb1.size; rw [hn] at hrd1; have hcopy := kH w1 r s _ es hrd1 (by omega)
 rw [← hn] at hcopy hrd1; obtain ⟨ZS, hZS⟩ := ag (kR r s es); obtain ⟨ZE, hZE⟩ := ag (kQ r s es); obtain ⟨ZL, hZL⟩ := ag (DD r s es); rw [← hZS, ← hZE, ← hZL]; have hRk : ∀ W, Below w1.heap.size w1 W → W.heap[w.heap.size + 1]? = some (.cells #[.int .i64 0, .int .i64 0, .slice none 0 0] 26 (0, 0)) := fun W hW => by rw [hW.block _ (by omega)]; exact hR
 replace hRk := ae hRk; replace hww := ae hww; replace hn := ae hn; replace h := ae h; replace hg := ae hg; replace hR := ae hR; replace hs1 := ae hs1; replace hZS := ae hZS; replace hZE := ae hZE; replace hZL := ae hZL; replace hwa := ae hwa; replace hw1 := ae hw1; replace hrd1 := ae hrd1; go_enter Tryz.func80, Tryz.ntmps80
 go_upto_region 1 with fail
 rw [hww.out]; go_wp2_with fail; refine hcopy.mono ?_; rintro e w2 ⟨ca, cc, rfl, hrow2, hb2⟩; rw [← hn.out]; clear hcopy; have hlt1 : w.heap.size + 1 < w1.heap.size := by have := hs1.out; omega
 have hb2l : w1.heap.size ≤ w2.heap.size := hb2.size; obtain ⟨w3, hw3⟩ := ag (w2.alloc (.cells #[.int .i64 r, .int .i64 s, .slice ca n cc] 26)); have hb3 : Below w2.heap.size w2 w3 := by rw [hw3]; exact (Below.refl _ _).alloc (nl _) _
 have hs3 : w3.heap.size = w2.heap.size + 1 := by rw [hw3]; simp
 have hk3 : w3.heap[w2.heap.size]? = some (.cells #[.int .i64 r, .int .i64 s, .slice ca n cc] 26 (0, 0)) := by rw [hw3]; exact heap_alloc_new _ _
 obtain ⟨X, hX⟩ := ag w2.heap.size; rw [← hX] at hk3 hs3; obtain ⟨w4, hw4⟩ := ag (w3.alloc (.cells #[] 126)); have hb4 : Below w3.heap.size w3 w4 := by rw [hw4]; exact (Below.refl _ _).alloc (nl _) _
 have hown4 : fF w4 w3.heap.size (.slice (some ⟨w3.heap.size, 0, none⟩) 0 0) [] := by rw [hw4]; exact fF.litF w3
 have hb24 := hb3.trans (hb4.mono (by omega))
 have hb14 : Below w1.heap.size w1 w4 := hb2.trans (hb24.mono hb2l); have hb04 : Below w.heap.size w w4 := hb1.trans (hb14.mono (by omega))
 have hs34 : X + 1 < w4.heap.size := by have h1 : w4.heap.size = w3.heap.size + 1 := by { rw [hw4]; simp }; omega
 rw [hs3] at hown4; have hst0 : Hid (∃ v', jd w4 X w1.heap.size r (dZ r s es 0).s v' (dZ r s es 0).es (.slice (some ⟨X + 1, 0, none⟩) 0 0) (dZ r s es 0).l) := ae ⟨.slice ca n cc, by
  have hrow := hrow2; refine ⟨(hb4.block X (by omega)).trans hk3, hown4, w1.heap.size, w2.heap.size, ?_, nl _, hb2l, by have := hb24.size; omega, .inl (by omega), fun b hb => ?_⟩
  · have h5 := hrow.below hb24 (nl _)
    have e2 := hn.out; rw [e2]; exact h5
  · have := Option.some.inj hb
    right; show w2.heap.size ≤ b
    have e3 : X + 1 = b := this; omega⟩
 have hkb0 : Hid (Below X w4 w4) := ae (Below.refl _ _); have hbX : w.heap.size + 1 < X := by omega
 have hs3' : w3.heap.size = X + 1 := hs3; replace hs3 := ae hs3; replace hk3 := ae hk3; replace hb3 := ae hb3; replace hb4 := ae hb4; replace hb2 := ae hb2; replace hb24 := ae hb24; replace hb14 := ae hb14; replace hb04 := ae hb04; replace hown4 := ae hown4; replace hrow2 := ae hrow2; replace hs3' := ae hs3'; go_upto_region 2 with fail
 rw [← hw3]; replace hw3 := ae hw3; rw [← hX]; have hXe := ae hX; have hX2 : w2.heap.size ≤ X ∧ X ≤ w2.heap.size := by omega
 clear hX; go_upto_region 3 with fail
 rw [← hw4]; replace hw4 := ae hw4; rw [hs3'.out]; clear g0 g1 g2; go_wp2
 go_loopg [5, 6] 40 (fun g o ii wr => ∃ i : Nat, i + g = 40 ∧ ii = .int .i64 (i : Int) ∧ Hid (∃ v', jd wr X w1.heap.size r (dZ r s es i).s v' (dZ r s es i).es o (dZ r s es i).l) ∧ Hid (Below X w4 wr) ∧ Hid (-9223372036854775808 ≤ (dZ r s es i).s ∧ (dZ r s es i).s ≤ 9223372036854775807))
 case atStart => exact ⟨0, by omega, by simp, hst0, hkb0, ae hs⟩
 case round =>
  clear hst0 hkb0; obtain ⟨i, hi, rfl, hst, hkb, hsb⟩ := hrel; obtain ⟨v6, hP⟩ := hst.out; obtain ⟨T, hT⟩ := ag (dZ r s es i); obtain ⟨hTl, hTi⟩ := KH r s es i; rw [← hT] at hP hTl hTi hsb; have hstop := fun (hf : kN r T.s T.es = false) => BC r s es (i := i) (by rw [← hT]; exact hf)
  have hnext : kN r T.s T.es = true → dZ r s es (i + 1) = ⟨yf r T.s T.es, onE r T.s T.es, T.l ++ [qR r T.s T.es]⟩ := fun hf => by rw [dZ, ← hT, if_pos hf]
  obtain ⟨E, hE⟩ := ag T.es; obtain ⟨L, hL⟩ := ag T.l; obtain ⟨sz, hsz⟩ := ag T.s; rw [← hE, ← hL, ← hsz] at hP; rw [← hE] at hTl; rw [← hL] at hTi; rw [← hsz, ← hE] at hstop; rw [← hsz, ← hE, ← hL] at hnext; rw [← hsz] at hsb; obtain ⟨av, cv, rfl⟩ := hP.form; obtain ⟨o3, o4, o5, rfl⟩ := hP.2.1.form3; have hXr : X < wr.heap.size := by have := hkb.out.size; omega
  have hbr : Below w.heap.size w wr := hb04.out.trans (hkb.out.mono (by omega))
  have hbr1 : Below w1.heap.size w1 wr := hb14.out.trans (hkb.out.mono (by omega))
  obtain ⟨m, hm⟩ := ag E.length; have hbox := hP.1; obtain ⟨x0, x1, x2⟩ := ah hbox; simp at x0 x1 x2
  rw [← hm] at x2; have hEl : E.length ≤ 1048576 := by have := hn.out; omega
  have honce := Jq wr r sz (.slice av E.length cv) E hP.read hsb.out (by omega)
  rw [← hm] at honce; replace hm := ae hm; obtain ⟨ON, hON⟩ := ag (onE r sz E); obtain ⟨OS, hOS⟩ := ag (yf r sz E); obtain ⟨⟨k, d⟩, hF⟩ : ∃ z, z = qR r sz E := ⟨_, rfl⟩; obtain ⟨C, hC⟩ := ag (kN r sz E); rw [← hON, ← hOS, ← hF, ← hC] at honce; rw [← hON, ← hOS, ← hF, ← hC] at hnext; rw [← hC] at hstop; have hOSb : -9223372036854775808 ≤ OS ∧ OS ≤ 9223372036854775807 := by
   rw [hOS]; unfold yf tK; split
   · split
     · rename_i h1 h2
       have := qJ.1 h2; have h3 := (dN.1 this.1).2.2.2; omega
     · exact hsb.out
   · exact hsb.out
  unfold mr at honce; simp only at honce
  replace hT := ae hT; replace hE := ae hE; replace hL := ae hL; replace hsz := ae hsz; replace hi := ae hi; replace hbox := ae hbox; replace hstop := ae hstop; replace hnext := ae hnext; replace hON := ae hON; replace hOS := ae hOS; replace hF := ae hF; replace hC := ae hC; replace hOSb := ae hOSb; replace hP := ae hP; clear hst; by_cases hlt : i < 40
  · have hki : (i : Int) < 40 := by omega
    replace hbr := ae hbr; replace hbr1 := ae hbr1; go_wp2_with fail; refine honce.mono ?_; rintro e w6 ⟨ra, rc, rfl, hrow6, hb6⟩; clear honce; have hs6 := hb6.size; obtain ⟨mo, hmo⟩ := ag ON.length; rw [← hmo]; replace hmo := ae hmo; obtain ⟨w7, hw7⟩ := ag ((w6.alloc (.cells #[.int .i64 r, .int .i64 OS, .slice ra mo rc] 26)).alloc (.cells #[.int .i64 k, .int .i64 d] 126)); have hb7 : Below w6.heap.size w6 w7 := by rw [hw7]; exact ((Below.refl _ _).alloc (nl _) _).alloc (by simp) _
    have hs7 : w7.heap.size = w6.heap.size + 1 + 1 := by rw [hw7]; simp
    have hy := dH w6 (.cells #[.int .i64 r, .int .i64 OS, .slice ra mo rc] 26) (.cells #[.int .i64 k, .int .i64 d] 126); have hf := heap_alloc_new (w6.alloc (.cells #[.int .i64 r, .int .i64 OS, .slice ra mo rc] 26)) (.cells #[.int .i64 k, .int .i64 d] 126); rw [← hw7] at hy hf; rw [show (w6.alloc (.cells #[.int .i64 r, .int .i64 OS, .slice ra mo rc] 26)).heap.size = w6.heap.size + 1 by simp] at hf
    obtain ⟨Y, hY⟩ := ag w6.heap.size; rw [← hY] at hy hf; obtain ⟨y0, y1, y2⟩ := ah hy; have f0 := cell_of_heap hf 0; have f1 := cell_of_heap hf 1; simp at y0 y1 y2 f0 f1
    have hb67 : Below wr.heap.size wr w7 := hb6.trans (hb7.mono hs6); have hs67 := hb67.size; have hP7 := hP.out.below hXr hb67; replace x0 := af x0 hb67 hXr; replace x1 := af x1 hb67 hXr; replace x2 := af x2 hb67 hXr; have hk7 : Below X w4 w7 := hkb.out.trans (hb67.mono (by omega))
    have hbw7 : Below w.heap.size w w7 := hbr.out.trans (hb67.mono hbr.out.size); have hbw17 : Below w1.heap.size w1 w7 := hbr1.out.trans (hb67.mono hbr1.out.size); have hYX : X < Y := by omega
    have hYe := ae hY; have hY2 : Y < w7.heap.size ∧ Y + 1 < w7.heap.size := by omega
    replace hs7 := ae hs7; replace hy := ae hy; replace hf := ae hf; have hrow7 : aF 36 3 w7 wr.heap.size w7.heap.size (.slice ra ON.length rc) ON.length (aC ON) := (hrow6.below hb7 (nl _)).wide (nl _) hb7.size; replace hrow6 := ae hrow6; replace hb6 := ae hb6; replace hb7 := ae hb7; clear hY; go_upto_region 7 with fail
    rw [← hw7]; replace hw7 := ae hw7; rw [← hYe.out]
    cases C with
    | false =>
     have hZZ : dZ r s es 40 = T := by
      have := hstop.out rfl (40 - i); rw [show i + (40 - i) = 40 by omega] at this
      rw [this, hT.out]
     have hZ1 : ZS = sz := by rw [hZS.out]; unfold kR; rw [hZZ, hsz.out]
     have hZ2 : ZE = E := by rw [hZE.out]; unfold kQ; rw [hZZ, hE.out]
     have hZ3 : ZL = L := by rw [hZL.out]; unfold DD; rw [hZZ, hL.out]
     have hRx := hRk.out w7 hbw17; obtain ⟨z0, z1, z2⟩ := ah hRx; have f2 := fun j => frozen_of_row w7 (w.heap.size + 1) j _ _ hRx
     simp at z0 z1 z2
     have hfin := Gg (w := w) (w9 := w7) (X := X) (R := w.heap.size + 1) (base := w1.heap.size) (cap := cv) (r := r) (s' := sz) (E := E) (L := L) (a := av) (by omega) (by omega) (by omega) hbw7 hP7 (by omega)
     rw [← hm.out] at hfin; have hset := set3 hRx (.int .i64 r) (.int .i64 sz) (.slice av m cv); replace hfin := ae hfin; replace hset := ae hset; replace hRx := ae hRx; replace hP7 := ae hP7; replace hb67 := ae hb67; replace hk7 := ae hk7; replace hbw7 := ae hbw7; replace hbw17 := ae hbw17; replace hZ1 := ae hZ1; replace hZ2 := ae hZ2; replace hZ3 := ae hZ3; replace hZZ := ae hZZ; replace hrow7 := ae hrow7
     replace hC := ae hC.out; clear y0 y1 y2 f0 f1; go_wp2
     (try simp only [Exit.inBlock, Exit.then])
     refine aO (x := .slice o3 o4 o5) rfl rfl rfl hset.out Tryz.underlying26 aB ?_; rw [hZ1.out, hZ2.out, hZ3.out]; exact hfin.out
    | true =>
     have hnx := hnext.out rfl; have hPr := hP.out; have hst8 := jd.store (sz' := OS) (E' := ON) hPr hXr hb67 (by have := hbr1.out.size; omega) hrow7
     rw [← hmo.out] at hst8; obtain ⟨w8, hw8⟩ := ag (((w7.setCell ⟨X, 0, none⟩ (.int .i64 r)).setCell ⟨X, 1, none⟩ (.int .i64 OS)).setCell ⟨X, 2, none⟩ (.slice ra mo rc)); rw [← hw8] at hst8; have hX7 := hP7.1; have ff := fun j => frozen_of_row w7 X j _ _ hX7
     have hk8 : ∀ j, j ≠ X → w8.heap[j]? = w7.heap[j]? := fun j hj => by rw [hw8]; exact dS hj
     have u0 : w8.cell? ⟨Y + 1, 0, none⟩ = some (.int .i64 k) := (World.cell?_of_block (w := w7) (a := ⟨Y + 1, 0, none⟩) (hk8 (Y + 1) (by omega))).trans f0
     have u1 : w8.cell? ⟨Y + 1, 1, none⟩ = some (.int .i64 d) := (World.cell?_of_block (w := w7) (a := ⟨Y + 1, 1, none⟩) (hk8 (Y + 1) (by omega))).trans f1
     have hk48 : Below X w4 w8 := by
      rw [hw8]; exact ((hk7.setCell (p := ⟨X, 0, none⟩) (nl _) _).setCell (p := ⟨X, 1, none⟩) (nl _) _).setCell (p := ⟨X, 2, none⟩) (nl _) _
     have hs8 : w8.heap.size = w7.heap.size := by rw [hw8]; exact aW
     have hX8 : X < w8.heap.size := by omega
     replace hst8 := ae hst8; replace hX7 := ae hX7; replace hk8 := ae hk8; replace hk48 := ae hk48; replace hs8 := ae hs8; replace hPr := ae hPr; replace hP7 := ae hP7; replace hb67 := ae hb67; replace hk7 := ae hk7; replace hbw7 := ae hbw7; replace hbw17 := ae hbw17; replace hrow7 := ae hrow7; replace hnx := ae hnx; replace hC := ae hC.out; go_upto_region 10 with fail
     rw [← hw8]; replace hw8 := ae hw8; clear x0 x1 x2 y0 y1 y2 f0 f1 ff; go_wp2_with (at_builtin; go_must (refine jV rfl _ _ rfl (X + 1) (.slice o3 o4 o5) L _ _ rfl rfl (by exact hst8.out.2.1) (by omega) (by omega) ?_))
     intro v10 w10 hown10 hg10 hloc10; have hst9 : Hid (∃ v', jd w10 X w1.heap.size r (dZ r s es (i + 1)).s v' (dZ r s es (i + 1)).es v10 (dZ r s es (i + 1)).l) := ae ⟨_, by rw [hnx.out]; exact hst8.out.push hX8 hown10 hg10 hloc10⟩
     have hkb10 : Hid (Below X w4 w10) := ae ((hk48.out.alloc (by omega) _).grown hg10 (by simp; omega) (fun j hj => by have := (World.ownsRow.lt hst8.out.2.1 j hj).1; omega))
     have hsb9 : Hid (-9223372036854775808 ≤ (dZ r s es (i + 1)).s ∧ (dZ r s es (i + 1)).s ≤ 9223372036854775807) := ae (by rw [hnx.out]; exact hOSb.out)
     replace hown10 := ae hown10; replace hg10 := ae hg10; replace hloc10 := ae hloc10; go_wp2; go_roundg (40 - (i + 1))
     case rel => exact ⟨i + 1, by omega, by go_num, hst9, hkb10, hsb9⟩
     case measure => have := hi.out; omega
  · obtain rfl : i = 40 := by have := hi.out; omega
    have hki : ¬ ((40 : Nat) : Int) < 40 := by omega
    have hZ1 : ZS = sz := by rw [hZS.out, hsz.out, hT.out]; rfl
    have hZ2 : ZE = E := by rw [hZE.out, hE.out, hT.out]; rfl
    have hZ3 : ZL = L := by rw [hZL.out, hL.out, hT.out]; rfl
    have hRx := hRk.out wr hbr1; obtain ⟨z0, z1, z2⟩ := ah hRx; have f2 := fun j => frozen_of_row wr (w.heap.size + 1) j _ _ hRx
    simp at z0 z1 z2
    have hfin := Gg (w := w) (w9 := wr) (X := X) (R := w.heap.size + 1) (base := w1.heap.size) (cap := cv) (r := r) (s' := sz) (E := E) (L := L) (a := av) (by omega) (by omega) (by omega) hbr hP.out (by omega)
    rw [← hm.out] at hfin; have hset := set3 hRx (.int .i64 r) (.int .i64 sz) (.slice av m cv); replace hfin := ae hfin; replace hset := ae hset; replace hRx := ae hRx; replace hbr := ae hbr; replace hbr1 := ae hbr1; replace hZ1 := ae hZ1; replace hZ2 := ae hZ2; replace hZ3 := ae hZ3; clear honce; go_wp2
    (try simp only [Exit.inBlock, Exit.then])
    refine aO (x := .slice o3 o4 o5) rfl rfl rfl hset.out Tryz.underlying26 aB ?_; rw [hZ1.out, hZ2.out, hZ3.out]; exact hfin.out
end Go.Proofs.YtgnomlcjikfdhaaGreat
