import Derived.Deep.LoopGhost
import Derived.Deep.Cut
import Derived.Test.YtpjlamnjiilgbaaGreatJ12Is
import Derived.Test.YtpjlamnjiilgbaaGreatJ0Is
import Derived.Test.YtpjlamnjiilgbaaGreatJ17Is
import Derived.Test.YtpjlamnjiilgbaaGreatJ11Is
namespace Go.Proofs.YtpjlamnjiilgbaaGreat
open Go.RowKit
set_option linter.unusedVariables false
set_option linter.unusedSimpArgs false
def chZ (cs : List Int) (i : Nat) : Int := if i < cs.length ∧ 0 < cs.getD i 0 then cs.getD i 0 else 0
theorem chZ_chN (cs : List Int) (i n : Nat) (h : 0 < n) : Int.tmod (chZ cs i) (n : Int) = (chN cs i n : Int) ∧ 0 ≤ chZ cs i := by
 unfold chZ chN
 split
 · rename_i hh
   have h1 : 0 ≤ cs.getD i 0 % (n : Int) := Int.emod_nonneg _ (by omega)
   rw [Int.tmod_eq_emod_of_nonneg (by omega), Int.toNat_of_nonneg h1]
   exact ⟨rfl, by omega⟩
 · simp
theorem choice_any (w : World) (v : Value) (cs : List Int) (i : Nat) (h : ReadI w.heap.size w v cs) (hl : cs.length ≤ 100000000) (hi : i ≤ 100000000) :
 Calls Tryz.prog 196 #[v, .int .i64 (i : Int)] w fun e w' => e = .returned (.int .i64 (chZ cs i)) ∧ w' = w := by
 have h0 := h
 obtain ⟨_, a, cap, rfl, _, _⟩ := h
 obtain ⟨n, hn⟩ := exq cs.length
 rw [← hn] at hl
 obtain ⟨Z, hZ⟩ := exq (chZ cs i)
 rw [← hZ]
 by_cases hlt : i < n
 · have hni : ¬ (n : Int) ≤ (i : Int) := by omega
   have hii : (i : Int) < (n : Int) := by omega
   obtain ⟨b, off, rfl, hB, hc⟩ := h0.at2 i (by omega)
   obtain ⟨c, hcc⟩ := exq (cs.getD i 0)
   rw [← hcc] at hc
   rw [← hn]
   by_cases hpos : 0 < c
   · have hZc : Z = c := by rw [hZ]; unfold chZ; rw [if_pos ⟨by omega, by omega⟩]; exact hcc.symm
     subst hZc
     have hmx : max Z 0 = Z := by omega
     have hnc : ¬ Z ≤ 0 := by omega
     have hnl : ¬ Z < 0 := by omega
     replace h0 := hidI h0
     replace hn := hidI hn
     replace hcc := hidI hcc
     replace hZ := hidI hZ
     go_enter Tryz.func196, Tryz.ntmps196
     go_wp2
     all_goals first | (exfalso; omega) | skip
     go_ret
     exact ⟨rfl, rfl⟩
   · have hZc : Z = 0 := by rw [hZ]; unfold chZ; rw [if_neg (fun h => hpos (by omega))]
     subst hZc
     rcases Int.lt_or_eq_of_le (show c ≤ 0 by omega) with hneg | hz0
     · have hmx : max c 0 = 0 := by omega
       replace h0 := hidI h0
       replace hn := hidI hn
       replace hcc := hidI hcc
       replace hZ := hidI hZ
       replace hpos := hidI hpos
       go_enter Tryz.func196, Tryz.ntmps196
       go_wp2
       all_goals first | (exfalso; omega) | skip
       go_ret
       exact ⟨rfl, rfl⟩
     · subst hz0
       have hmx : max (0 : Int) 0 = 0 := by omega
       replace h0 := hidI h0
       replace hn := hidI hn
       replace hcc := hidI hcc
       replace hZ := hidI hZ
       replace hpos := hidI hpos
       go_enter Tryz.func196, Tryz.ntmps196
       go_wp2
       all_goals first | (exfalso; omega) | skip
       go_ret
       exact ⟨rfl, rfl⟩
 · have hni : (n : Int) ≤ (i : Int) := by omega
   have hZc : Z = 0 := by rw [hZ]; unfold chZ; rw [if_neg (fun h => hlt (by omega))]
   subst hZc
   rw [← hn]
   replace h0 := hidI h0
   replace hn := hidI hn
   replace hZ := hidI hZ
   go_enter Tryz.func196, Tryz.ntmps196
   go_wp2
   all_goals first | (exfalso; omega) | skip
   go_ret
   exact ⟨rfl, rfl⟩
end Go.Proofs.YtpjlamnjiilgbaaGreat
namespace Go.Proofs.YtpjlamnjiilgbaaGreat
open Go.RowKit
set_option linter.unusedVariables false
set_option linter.unusedSimpArgs false
def FoSt (w : World) (X base : Nat) (r sz : Int) (v : Value) (E : List Ed) (o : Value) (L : List tupF) : Prop :=
 w.heap[X]? = some (.cells #[.int .i64 r, .int .i64 sz, v] 26 (0, 0)) ∧ OwnsF w (X + 1) o L ∧
  ∃ lo hi, RowS 72 3 w lo hi v E.length (flatE E) ∧ base ≤ lo ∧ lo ≤ hi ∧ hi ≤ w.heap.size ∧ (hi ≤ X ∨ X < lo) ∧ ∀ b, o.ownBlock = some b → b < lo ∨ hi ≤ b
theorem FoSt.form {w : World} {X base : Nat} {r sz : Int} {v o : Value} {E : List Ed} {L : List tupF} (h : FoSt w X base r sz v E o L) : ∃ a c, v = .slice a E.length c := by
 obtain ⟨_, _, lo, hi, ⟨_, _, ⟨h1, h2⟩ | ⟨g, off, cap, cur, h1, _⟩⟩, _⟩ := h
 · exact ⟨none, 0, by rw [h1, h2]⟩
 · exact ⟨_, _, h1⟩
theorem FoSt.read {w : World} {X base : Nat} {r sz : Int} {v o : Value} {E : List Ed} {L : List tupF} (h : FoSt w X base r sz v E o L) : ReadE w.heap.size w v E := by
 obtain ⟨_, _, lo, hi, h2, _, _, h4, _⟩ := h
 exact h2.read.mono h4
theorem FoSt.below {w w' : World} {X base : Nat} {r sz : Int} {v o : Value} {E : List Ed} {L : List tupF} (h : FoSt w X base r sz v E o L) (hX : X < w.heap.size) (hb : Below w.heap.size w w') : FoSt w' X base r sz v E o L := by
 obtain ⟨h1, h0, lo, hi, h2, h3, h3', h4, h5, h6⟩ := h
 exact ⟨by rw [hb.block X hX]; exact h1, h0.later hb (Nat.le_refl _), lo, hi, h2.below hb h4, h3, h3', Nat.le_trans h4 hb.size, h5, h6⟩
theorem FoSt.drew {w : World} {X base : Nat} {r sz : Int} {v o : Value} {E : List Ed} {L : List tupF} (h : FoSt w X base r sz v E o L) : FoSt w.drew X base r sz v E o L := h
theorem FoSt.store {w w' : World} {X base : Nat} {r sz sz' : Int} {v v' o : Value} {E E' : List Ed} {L : List tupF} (h : FoSt w X base r sz v E o L) (hX : X < w.heap.size) (hb : Below w.heap.size w w') (hbase : base ≤ w.heap.size) (hr : RowS 72 3 w' w.heap.size w'.heap.size v' E'.length (flatE E')) :
 FoSt (((w'.setCell ⟨X, 0, none⟩ (.int .i64 r)).setCell ⟨X, 1, none⟩ (.int .i64 sz')).setCell ⟨X, 2, none⟩ v') X base r sz' v' E' o L := by
 obtain ⟨h1, h0, lo, hi, h2, h3, h3', h4, h5, h6⟩ := h
 have hlt := World.ownsRow.lt h0
 refine ⟨set3 ((hb.block X hX).trans h1) _ _ _, ?_, w.heap.size, w'.heap.size, hr.set3_ (.inl hX), hbase, hb.size, by rw [size_set3]; exact Nat.le_refl _, .inr hX, fun b hb' => .inl (hlt b hb').2⟩
 refine (h0.later hb (Nat.le_refl _)).other fun b hb' => heap_set3 ?_
 have := (hlt b hb').1
 omega
theorem FoSt.push {w w' : World} {O : Obj} {X base : Nat} {r sz : Int} {v o o' : Value} {E : List Ed} {L L' : List tupF} (h : FoSt w X base r sz v E o L) (hX : X < w.heap.size) (ho : OwnsF w' (X + 1) o' L') (hg : (w.alloc O).grownBy w' o.ownBlock) (hloc : o'.ownBlock = o.ownBlock ∨ o'.ownBlock = some (w.heap.size + 1)) :
 FoSt w' X base r sz v E o' L' := by
 obtain ⟨h1, h0, lo, hi, h2, h3, h3', h4, h5, h6⟩ := h
 have hlt := World.ownsRow.lt h0
 have hsz := hg.size
 simp at hsz
 refine ⟨?_, ho, lo, hi, h2.keep (fun q q1 q2 => ?_), h3, h3', by omega, h5, fun b hb => ?_⟩
 · rw [hg.block X (by simp; omega) (fun e => by have := (hlt X e.symm).1; omega), heap_alloc_old _ _ hX]; exact h1
 · rw [hg.block q (by simp; omega) (fun e => by have := h6 q e.symm; omega), heap_alloc_old _ _ (by omega)]
 · rcases hloc with e | e
   · exact h6 b (e ▸ hb)
   · have := Option.some.inj (e.symm.trans hb)
     right; omega
theorem fo_fin {w w9 : World} {X R base cap : Nat} {r s' : Int} {E : List Ed} {L : List tupF} {a : Option Addr} {o : Value} (hR : w.heap.size ≤ R) (hRX : R < base) (hRX' : R ≤ X) (hbw : Below w.heap.size w w9) (h : FoSt w9 X base r s' (.slice a E.length cap) E o L) (hl : L.length ≤ 1000) :
 LwGraphFolds w r s' E L (.returned (.tuple #[.agg #[.int .i64 r, .int .i64 s', .slice a E.length cap], o])) (((w9.setCell ⟨R, 0, none⟩ (.int .i64 r)).setCell ⟨R, 1, none⟩ (.int .i64 s')).setCell ⟨R, 2, none⟩ (.slice a E.length cap)) := by
 obtain ⟨h1, h0, lo, hi, h2, h3, h3', h4, h5, h6⟩ := h
 have hrow := OwnsS.row h0 (by omega)
 have hrowg : RowS 72 3 (((w9.setCell ⟨R, 0, none⟩ (.int .i64 r)).setCell ⟨R, 1, none⟩ (.int .i64 s')).setCell ⟨R, 2, none⟩ (.slice a E.length cap)) lo hi (.slice a E.length cap) E.length (flatE E) := RowS.set3_ h2 (.inl (by omega))
 have hrowf : RowS 167 2 (((w9.setCell ⟨R, 0, none⟩ (.int .i64 r)).setCell ⟨R, 1, none⟩ (.int .i64 s')).setCell ⟨R, 2, none⟩ (.slice a E.length cap)) (X + 1) w9.heap.size o L.length (flatF L) := RowS.set3_ hrow (.inl (by omega))
 have hbe := below_set3 (x0 := .int .i64 r) (x1 := .int .i64 s') (x2 := .slice a E.length cap) hbw hR
 rcases h0.2 with ⟨rfl, h00⟩ | ⟨g, cap', cur, rfl, hg1, hg2, _⟩
 · exact ⟨a, cap, _, lo, hi, w.heap.size, w.heap.size, rfl, ⟨by omega, h3', by rw [size_set3]; exact h4, Nat.le_refl _, Nat.le_refl _, by rw [size_set3]; have := hbw.size; omega, by omega⟩, hrowg, ⟨by rw [flatF_length], by omega, .inl ⟨rfl, h00⟩⟩, hbe⟩
 · have hgl := (World.ownsRow.lt h0 g rfl).2
   have hrow1 : RowS 167 2 (((w9.setCell ⟨R, 0, none⟩ (.int .i64 r)).setCell ⟨R, 1, none⟩ (.int .i64 s')).setCell ⟨R, 2, none⟩ (.slice a E.length cap)) g (g + 1) (.slice (some ⟨g, 0, none⟩) L.length cap') L.length (flatF L) := by
    obtain ⟨q1, q2, ⟨q3, q4⟩ | ⟨g', off', cap2, cur', q3, q4, q5, q6, q7, q8⟩⟩ := hrowf
    · cases q3
    · have e := q3
      injection e with e1 _ _
      injection e1 with e1
      injection e1 with e1 _ _
      subst e1
      exact ⟨q1, q2, .inr ⟨g, off', cap2, cur', q3, Nat.le_refl _, by omega, q6, q7, q8⟩⟩
   exact ⟨a, cap, _, lo, hi, g, g + 1, rfl, ⟨by omega, h3', by rw [size_set3]; exact h4, by omega, by omega, by rw [size_set3]; omega, by have := h6 g rfl; omega⟩, hrowg, hrow1, hbe⟩
set_option maxRecDepth 100000 in
set_option maxHeartbeats 6400000 in
theorem specAll (w : World) (r s : Int) (v : Value) (es : List Ed) (h : ReadE w.heap.size w v es) (hs : -9223372036854775808 ≤ s ∧ s ≤ 9223372036854775807) (hl : es.length ≤ 1048576) :
 Calls Tryz.prog 134 #[.agg #[.int .i64 r, .int .i64 s, v]] w (LwGraphFolds w r (faS r s es) (faE r s es) (faL r s es)) := by
 obtain ⟨a, cap, rfl, hnc⟩ := h.form
 obtain ⟨n, hn⟩ := exq es.length
 rw [← hn] at h
 rw [← hn] at hl hnc ⊢
 obtain ⟨wa, hwa⟩ := exq (w.alloc (.cells #[.int .i64 r, .int .i64 s, .slice a n cap] 26))
 obtain ⟨w1, hw1⟩ := exq (wa.alloc (.cells #[.int .i64 0, .int .i64 0, .slice none 0 0] 26))
 have hww : (w.alloc (.cells #[.int .i64 r, .int .i64 s, .slice a n cap] 26)).alloc (.cells #[.int .i64 0, .int .i64 0, .slice none 0 0] 26) = w1 := by rw [hw1, hwa]
 have hb1 : Below w.heap.size w w1 := by rw [← hww]; exact ((Below.refl _ _).alloc (Nat.le_refl _) _).alloc (by simp) _
 have hs1 : w1.heap.size = w.heap.size + 1 + 1 := by rw [← hww]; simp
 have hg := heap_box w (.cells #[.int .i64 r, .int .i64 s, .slice a n cap] 26) (.cells #[.int .i64 0, .int .i64 0, .slice none 0 0] 26)
 have hR := heap_alloc_new (w.alloc (.cells #[.int .i64 r, .int .i64 s, .slice a n cap] 26)) (.cells #[.int .i64 0, .int .i64 0, .slice none 0 0] 26)
 rw [hww] at hg hR
 rw [show (w.alloc (.cells #[.int .i64 r, .int .i64 s, .slice a n cap] 26)).heap.size = w.heap.size + 1 by simp] at hR
 have g0 : w1.cell? ⟨w.heap.size, 0, none⟩ = some (.int .i64 r) := by simpa using cell_of_heap hg 0
 have g1 : w1.cell? ⟨w.heap.size, 1, none⟩ = some (.int .i64 s) := by simpa using cell_of_heap hg 1
 have g2 : w1.cell? ⟨w.heap.size, 2, none⟩ = some (.slice a n cap) := by simpa using cell_of_heap hg 2
 have hrd1 := (h.below hb1).mono hb1.size
 rw [hn] at hrd1
 have hcopy := specCopy w1 r s _ es hrd1 (by omega)
 rw [← hn] at hcopy hrd1
 obtain ⟨ZS, hZS⟩ := exq (faS r s es)
 obtain ⟨ZE, hZE⟩ := exq (faE r s es)
 obtain ⟨ZL, hZL⟩ := exq (faL r s es)
 rw [← hZS, ← hZE, ← hZL]
 have hRk : ∀ W, Below w1.heap.size w1 W → W.heap[w.heap.size + 1]? = some (.cells #[.int .i64 0, .int .i64 0, .slice none 0 0] 26 (0, 0)) := fun W hW => by rw [hW.block _ (by omega)]; exact hR
 replace hRk := hidI hRk
 replace hww := hidI hww
 replace hn := hidI hn
 replace h := hidI h
 replace hg := hidI hg
 replace hR := hidI hR
 replace hs1 := hidI hs1
 replace hZS := hidI hZS
 replace hZE := hidI hZE
 replace hZL := hidI hZL
 replace hwa := hidI hwa
 replace hw1 := hidI hw1
 replace hrd1 := hidI hrd1
 go_enter Tryz.func134, Tryz.ntmps134
 go_upto_region 1 with fail
 rw [hww.out]
 go_wp2_with fail
 refine hcopy.mono ?_
 rintro e w2 ⟨ca, cc, rfl, hrow2, hb2⟩
 rw [← hn.out]
 clear hcopy
 have hlt1 : w.heap.size + 1 < w1.heap.size := by have := hs1.out; omega
 have hb2l : w1.heap.size ≤ w2.heap.size := hb2.size
 obtain ⟨w3, hw3⟩ := exq (w2.alloc (.cells #[.int .i64 r, .int .i64 s, .slice ca n cc] 26))
 have hb3 : Below w2.heap.size w2 w3 := by rw [hw3]; exact (Below.refl _ _).alloc (Nat.le_refl _) _
 have hs3 : w3.heap.size = w2.heap.size + 1 := by rw [hw3]; simp
 have hk3 : w3.heap[w2.heap.size]? = some (.cells #[.int .i64 r, .int .i64 s, .slice ca n cc] 26 (0, 0)) := by rw [hw3]; exact heap_alloc_new _ _
 obtain ⟨X, hX⟩ := exq w2.heap.size
 rw [← hX] at hk3 hs3
 obtain ⟨w4, hw4⟩ := exq (w3.alloc (.cells #[] 167))
 have hb4 : Below w3.heap.size w3 w4 := by rw [hw4]; exact (Below.refl _ _).alloc (Nat.le_refl _) _
 have hown4 : OwnsF w4 w3.heap.size (.slice (some ⟨w3.heap.size, 0, none⟩) 0 0) [] := by rw [hw4]; exact OwnsF.litF w3
 have hb24 := hb3.trans (hb4.mono (by omega))
 have hb14 : Below w1.heap.size w1 w4 := hb2.trans (hb24.mono hb2l)
 have hb04 : Below w.heap.size w w4 := hb1.trans (hb14.mono (by omega))
 have hs34 : X + 1 < w4.heap.size := by have h1 : w4.heap.size = w3.heap.size + 1 := by { rw [hw4]; simp }; omega
 rw [hs3] at hown4
 have hst0 : Hid (∃ v', FoSt w4 X w1.heap.size r (stN r s es 0).s v' (stN r s es 0).es (.slice (some ⟨X + 1, 0, none⟩) 0 0) (stN r s es 0).l) := hidI ⟨.slice ca n cc, by
  have hrow := hrow2
  refine ⟨(hb4.block X (by omega)).trans hk3, hown4, w1.heap.size, w2.heap.size, ?_, Nat.le_refl _, hb2l, by have := hb24.size; omega, .inl (by omega), fun b hb => ?_⟩
  · have h5 := hrow.below hb24 (Nat.le_refl _)
    have e2 := hn.out
    rw [e2]; exact h5
  · have := Option.some.inj hb
    right; show w2.heap.size ≤ b
    have e3 : X + 1 = b := this
    omega⟩
 have hkb0 : Hid (Below X w4 w4) := hidI (Below.refl _ _)
 have hbX : w.heap.size + 1 < X := by omega
 have hs3' : w3.heap.size = X + 1 := hs3
 replace hs3 := hidI hs3
 replace hk3 := hidI hk3
 replace hb3 := hidI hb3
 replace hb4 := hidI hb4
 replace hb2 := hidI hb2
 replace hb24 := hidI hb24
 replace hb14 := hidI hb14
 replace hb04 := hidI hb04
 replace hown4 := hidI hown4
 replace hrow2 := hidI hrow2
 replace hs3' := hidI hs3'
 go_upto_region 2 with fail
 rw [← hw3]
 replace hw3 := hidI hw3
 rw [← hX]
 have hXe := hidI hX
 have hX2 : w2.heap.size ≤ X ∧ X ≤ w2.heap.size := by omega
 clear hX
 go_upto_region 3 with fail
 rw [← hw4]
 replace hw4 := hidI hw4
 rw [hs3'.out]
 clear g0 g1 g2
 go_wp2
 go_loopg [5, 6] 40 (fun g o ii wr => ∃ i : Nat, i + g = 40 ∧ ii = .int .i64 (i : Int) ∧ Hid (∃ v', FoSt wr X w1.heap.size r (stN r s es i).s v' (stN r s es i).es o (stN r s es i).l) ∧ Hid (Below X w4 wr) ∧ Hid (-9223372036854775808 ≤ (stN r s es i).s ∧ (stN r s es i).s ≤ 9223372036854775807))
 case atStart => exact ⟨0, by omega, by simp, hst0, hkb0, hidI hs⟩
 case round =>
  clear hst0 hkb0
  obtain ⟨i, hi, rfl, hst, hkb, hsb⟩ := hrel
  obtain ⟨v6, hP⟩ := hst.out
  obtain ⟨T, hT⟩ := exq (stN r s es i)
  obtain ⟨hTl, hTi⟩ := stN_len r s es i
  rw [← hT] at hP hTl hTi hsb
  have hstop := fun (hf : ffB r T.s T.es = false) => stN_stop r s es (i := i) (by rw [← hT]; exact hf)
  have hnext : ffB r T.s T.es = true → stN r s es (i + 1) = ⟨onS r T.s T.es, onE r T.s T.es, T.l ++ [ffF r T.s T.es]⟩ := fun hf => by rw [stN, ← hT, if_pos hf]
  obtain ⟨E, hE⟩ := exq T.es
  obtain ⟨L, hL⟩ := exq T.l
  obtain ⟨sz, hsz⟩ := exq T.s
  rw [← hE, ← hL, ← hsz] at hP
  rw [← hE] at hTl
  rw [← hL] at hTi
  rw [← hsz, ← hE] at hstop
  rw [← hsz, ← hE, ← hL] at hnext
  rw [← hsz] at hsb
  obtain ⟨av, cv, rfl⟩ := hP.form
  obtain ⟨o3, o4, o5, rfl⟩ := hP.2.1.form3
  have hXr : X < wr.heap.size := by have := hkb.out.size; omega
  have hbr : Below w.heap.size w wr := hb04.out.trans (hkb.out.mono (by omega))
  have hbr1 : Below w1.heap.size w1 wr := hb14.out.trans (hkb.out.mono (by omega))
  obtain ⟨m, hm⟩ := exq E.length
  have hbox := hP.1
  obtain ⟨x0, x1, x2⟩ := cell3 hbox
  simp at x0 x1 x2
  rw [← hm] at x2
  have hEl : E.length ≤ 1048576 := by have := hn.out; omega
  have honce := specOnce wr r sz (.slice av E.length cv) E hP.read hsb.out (by omega)
  rw [← hm] at honce
  replace hm := hidI hm
  obtain ⟨ON, hON⟩ := exq (onE r sz E)
  obtain ⟨OS, hOS⟩ := exq (onS r sz E)
  obtain ⟨⟨k, d⟩, hF⟩ : ∃ z, z = ffF r sz E := ⟨_, rfl⟩
  obtain ⟨C, hC⟩ := exq (ffB r sz E)
  rw [← hON, ← hOS, ← hF, ← hC] at honce
  rw [← hON, ← hOS, ← hF, ← hC] at hnext
  rw [← hC] at hstop
  have hOSb : -9223372036854775808 ≤ OS ∧ OS ≤ 9223372036854775807 := by
   rw [hOS]
   unfold onS mrS
   split
   · split
     · rename_i h1 h2
       have := okM_iff.1 h2
       have h3 := (isGr_iff.1 this.1).2.2.2
       omega
     · exact hsb.out
   · exact hsb.out
  unfold LwGraphFoldBool at honce
  simp only at honce
  replace hT := hidI hT
  replace hE := hidI hE
  replace hL := hidI hL
  replace hsz := hidI hsz
  replace hi := hidI hi
  replace hbox := hidI hbox
  replace hstop := hidI hstop
  replace hnext := hidI hnext
  replace hON := hidI hON
  replace hOS := hidI hOS
  replace hF := hidI hF
  replace hC := hidI hC
  replace hOSb := hidI hOSb
  replace hP := hidI hP
  clear hst
  by_cases hlt : i < 40
  · have hki : (i : Int) < 40 := by omega
    replace hbr := hidI hbr
    replace hbr1 := hidI hbr1
    go_wp2_with fail
    refine honce.mono ?_
    rintro e w6 ⟨ra, rc, rfl, hrow6, hb6⟩
    clear honce
    have hs6 := hb6.size
    obtain ⟨mo, hmo⟩ := exq ON.length
    rw [← hmo]
    replace hmo := hidI hmo
    obtain ⟨w7, hw7⟩ := exq ((w6.alloc (.cells #[.int .i64 r, .int .i64 OS, .slice ra mo rc] 26)).alloc (.cells #[.int .i64 k, .int .i64 d] 167))
    have hb7 : Below w6.heap.size w6 w7 := by rw [hw7]; exact ((Below.refl _ _).alloc (Nat.le_refl _) _).alloc (by simp) _
    have hs7 : w7.heap.size = w6.heap.size + 1 + 1 := by rw [hw7]; simp
    have hy := heap_box w6 (.cells #[.int .i64 r, .int .i64 OS, .slice ra mo rc] 26) (.cells #[.int .i64 k, .int .i64 d] 167)
    have hf := heap_alloc_new (w6.alloc (.cells #[.int .i64 r, .int .i64 OS, .slice ra mo rc] 26)) (.cells #[.int .i64 k, .int .i64 d] 167)
    rw [← hw7] at hy hf
    rw [show (w6.alloc (.cells #[.int .i64 r, .int .i64 OS, .slice ra mo rc] 26)).heap.size = w6.heap.size + 1 by simp] at hf
    obtain ⟨Y, hY⟩ := exq w6.heap.size
    rw [← hY] at hy hf
    obtain ⟨y0, y1, y2⟩ := cell3 hy
    have f0 := cell_of_heap hf 0
    have f1 := cell_of_heap hf 1
    simp at y0 y1 y2 f0 f1
    have hb67 : Below wr.heap.size wr w7 := hb6.trans (hb7.mono hs6)
    have hs67 := hb67.size
    have hP7 := hP.out.below hXr hb67
    replace x0 := below_cell x0 hb67 hXr
    replace x1 := below_cell x1 hb67 hXr
    replace x2 := below_cell x2 hb67 hXr
    have hk7 : Below X w4 w7 := hkb.out.trans (hb67.mono (by omega))
    have hbw7 : Below w.heap.size w w7 := hbr.out.trans (hb67.mono hbr.out.size)
    have hbw17 : Below w1.heap.size w1 w7 := hbr1.out.trans (hb67.mono hbr1.out.size)
    have hYX : X < Y := by omega
    have hYe := hidI hY
    have hY2 : Y < w7.heap.size ∧ Y + 1 < w7.heap.size := by omega
    replace hs7 := hidI hs7
    replace hy := hidI hy
    replace hf := hidI hf
    have hrow7 : RowS 72 3 w7 wr.heap.size w7.heap.size (.slice ra ON.length rc) ON.length (flatE ON) := (hrow6.below hb7 (Nat.le_refl _)).wide (Nat.le_refl _) hb7.size
    replace hrow6 := hidI hrow6
    replace hb6 := hidI hb6
    replace hb7 := hidI hb7
    clear hY
    go_upto_region 7 with fail
    rw [← hw7]
    replace hw7 := hidI hw7
    rw [← hYe.out]
    cases C with
    | false =>
     have hZZ : stN r s es 40 = T := by
      have := hstop.out rfl (40 - i)
      rw [show i + (40 - i) = 40 by omega] at this
      rw [this, hT.out]
     have hZ1 : ZS = sz := by rw [hZS.out]; unfold faS; rw [hZZ, hsz.out]
     have hZ2 : ZE = E := by rw [hZE.out]; unfold faE; rw [hZZ, hE.out]
     have hZ3 : ZL = L := by rw [hZL.out]; unfold faL; rw [hZZ, hL.out]
     have hRx := hRk.out w7 hbw17
     obtain ⟨z0, z1, z2⟩ := cell3 hRx
     have f2 := fun j => frozen_of_row w7 (w.heap.size + 1) j _ _ hRx
     simp at z0 z1 z2
     have hfin := fo_fin (w := w) (w9 := w7) (X := X) (R := w.heap.size + 1) (base := w1.heap.size) (cap := cv) (r := r) (s' := sz) (E := E) (L := L) (a := av) (by omega) (by omega) (by omega) hbw7 hP7 (by omega)
     rw [← hm.out] at hfin
     have hset := set3 hRx (.int .i64 r) (.int .i64 sz) (.slice av m cv)
     replace hfin := hidI hfin
     replace hset := hidI hset
     replace hRx := hidI hRx
     replace hP7 := hidI hP7
     replace hb67 := hidI hb67
     replace hk7 := hidI hk7
     replace hbw7 := hidI hbw7
     replace hbw17 := hidI hbw17
     replace hZ1 := hidI hZ1
     replace hZ2 := hidI hZ2
     replace hZ3 := hidI hZ3
     replace hZZ := hidI hZZ
     replace hrow7 := hidI hrow7
     replace hC := hidI hC.out
     clear y0 y1 y2 f0 f1
     go_wp2
     (try simp only [Exit.inBlock, Exit.then])
     refine ret_cell2 (x := .slice o3 o4 o5) rfl rfl rfl hset.out Tryz.underlying26 sizeGraph ?_
     rw [hZ1.out, hZ2.out, hZ3.out]
     exact hfin.out
    | true =>
     have hnx := hnext.out rfl
     have hPr := hP.out
     have hst8 := FoSt.store (sz' := OS) (E' := ON) hPr hXr hb67 (by have := hbr1.out.size; omega) hrow7
     rw [← hmo.out] at hst8
     obtain ⟨w8, hw8⟩ := exq (((w7.setCell ⟨X, 0, none⟩ (.int .i64 r)).setCell ⟨X, 1, none⟩ (.int .i64 OS)).setCell ⟨X, 2, none⟩ (.slice ra mo rc))
     rw [← hw8] at hst8
     have hX7 := hP7.1
     have ff := fun j => frozen_of_row w7 X j _ _ hX7
     have hk8 : ∀ j, j ≠ X → w8.heap[j]? = w7.heap[j]? := fun j hj => by rw [hw8]; exact heap_set3 hj
     have u0 : w8.cell? ⟨Y + 1, 0, none⟩ = some (.int .i64 k) := (World.cell?_of_block (w := w7) (a := ⟨Y + 1, 0, none⟩) (hk8 (Y + 1) (by omega))).trans f0
     have u1 : w8.cell? ⟨Y + 1, 1, none⟩ = some (.int .i64 d) := (World.cell?_of_block (w := w7) (a := ⟨Y + 1, 1, none⟩) (hk8 (Y + 1) (by omega))).trans f1
     have hk48 : Below X w4 w8 := by
      rw [hw8]
      exact ((hk7.setCell (p := ⟨X, 0, none⟩) (Nat.le_refl _) _).setCell (p := ⟨X, 1, none⟩) (Nat.le_refl _) _).setCell (p := ⟨X, 2, none⟩) (Nat.le_refl _) _
     have hs8 : w8.heap.size = w7.heap.size := by rw [hw8]; exact size_set3
     have hX8 : X < w8.heap.size := by omega
     replace hst8 := hidI hst8
     replace hX7 := hidI hX7
     replace hk8 := hidI hk8
     replace hk48 := hidI hk48
     replace hs8 := hidI hs8
     replace hPr := hidI hPr
     replace hP7 := hidI hP7
     replace hb67 := hidI hb67
     replace hk7 := hidI hk7
     replace hbw7 := hidI hbw7
     replace hbw17 := hidI hbw17
     replace hrow7 := hidI hrow7
     replace hnx := hidI hnx
     replace hC := hidI hC.out
     go_upto_region 10 with fail
     rw [← hw8]
     replace hw8 := hidI hw8
     clear x0 x1 x2 y0 y1 y2 f0 f1 ff
     go_wp2_with (at_builtin; go_must (refine wpList_pushF_at rfl _ _ rfl (X + 1) (.slice o3 o4 o5) L _ _ rfl rfl (by exact hst8.out.2.1) (by omega) (by omega) ?_))
     intro v10 w10 hown10 hg10 hloc10
     have hst9 : Hid (∃ v', FoSt w10 X w1.heap.size r (stN r s es (i + 1)).s v' (stN r s es (i + 1)).es v10 (stN r s es (i + 1)).l) := hidI ⟨_, by rw [hnx.out]; exact hst8.out.push hX8 hown10 hg10 hloc10⟩
     have hkb10 : Hid (Below X w4 w10) := hidI ((hk48.out.alloc (by omega) _).grown hg10 (by simp; omega) (fun j hj => by have := (World.ownsRow.lt hst8.out.2.1 j hj).1; omega))
     have hsb9 : Hid (-9223372036854775808 ≤ (stN r s es (i + 1)).s ∧ (stN r s es (i + 1)).s ≤ 9223372036854775807) := hidI (by rw [hnx.out]; exact hOSb.out)
     replace hown10 := hidI hown10
     replace hg10 := hidI hg10
     replace hloc10 := hidI hloc10
     go_wp2
     go_roundg (40 - (i + 1))
     case rel => exact ⟨i + 1, by omega, by go_num, hst9, hkb10, hsb9⟩
     case measure => have := hi.out; omega
  · obtain rfl : i = 40 := by have := hi.out; omega
    have hki : ¬ ((40 : Nat) : Int) < 40 := by omega
    have hZ1 : ZS = sz := by rw [hZS.out, hsz.out, hT.out]; rfl
    have hZ2 : ZE = E := by rw [hZE.out, hE.out, hT.out]; rfl
    have hZ3 : ZL = L := by rw [hZL.out, hL.out, hT.out]; rfl
    have hRx := hRk.out wr hbr1
    obtain ⟨z0, z1, z2⟩ := cell3 hRx
    have f2 := fun j => frozen_of_row wr (w.heap.size + 1) j _ _ hRx
    simp at z0 z1 z2
    have hfin := fo_fin (w := w) (w9 := wr) (X := X) (R := w.heap.size + 1) (base := w1.heap.size) (cap := cv) (r := r) (s' := sz) (E := E) (L := L) (a := av) (by omega) (by omega) (by omega) hbr hP.out (by omega)
    rw [← hm.out] at hfin
    have hset := set3 hRx (.int .i64 r) (.int .i64 sz) (.slice av m cv)
    replace hfin := hidI hfin
    replace hset := hidI hset
    replace hRx := hidI hRx
    replace hbr := hidI hbr
    replace hbr1 := hidI hbr1
    replace hZ1 := hidI hZ1
    replace hZ2 := hidI hZ2
    replace hZ3 := hidI hZ3
    clear honce
    go_wp2
    (try simp only [Exit.inBlock, Exit.then])
    refine ret_cell2 (x := .slice o3 o4 o5) rfl rfl rfl hset.out Tryz.underlying26 sizeGraph ?_
    rw [hZ1.out, hZ2.out, hZ3.out]
    exact hfin.out
end Go.Proofs.YtpjlamnjiilgbaaGreat
