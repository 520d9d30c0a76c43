import Derived.Test.YtjnhhhnehkmfmaaGreatHX
import Derived.Test.YtjnhhhnehkmfmaaGreatHMS
import Derived.Test.YtjnhhhnehkmfmaaGreatJO
import Derived.Deep.LoopGhost
import Derived.Deep.Cut
namespace Go.Proofs.YtjnhhhnehkmfmaaGreat
open Go.RowKit
set_option linter.unusedVariables false
set_option linter.unusedSimpArgs false
def FoSt (w : World) (X base : Nat) (r sz : Int) (v : Value) (E : List Ed) (o : Value) (L : List tupF) : Prop :=
 w.heap[X]? = some (.cells #[.int .i64 r, .int .i64 sz, v] 26 (0, 0)) ∧ OwnsF w (X + 1) o L ∧
  ∃ lo hi, RowS 68 3 w lo hi v E.length (flatE E) ∧ base ≤ lo ∧ lo ≤ hi ∧ hi ≤ w.heap.size ∧ (hi ≤ X ∨ X < lo) ∧ ∀ b, o.ownBlock = some b → b < lo ∨ hi ≤ b
theorem FoSt.form {w : World} {X base : Nat} {r sz : Int} {v o : Value} {E : List Ed} {L : List tupF} (h : FoSt w X base r sz v E o L) : ∃ a c, v = .slice a E.length c := by
 obtain ⟨_, _, lo, hi, ⟨_, _, ⟨h1, h2⟩ | ⟨g, off, cap, cur, h1, _⟩⟩, _⟩ := h
 · exact ⟨none, 0, by rw [h1, h2]⟩
 · exact ⟨_, _, h1⟩
theorem FoSt.read {w : World} {X base : Nat} {r sz : Int} {v o : Value} {E : List Ed} {L : List tupF} (h : FoSt w X base r sz v E o L) : ReadE w.heap.size w v E := by
 obtain ⟨_, _, lo, hi, h2, _, _, h4, _⟩ := h
 exact h2.read.mono h4
theorem FoSt.below {w w' : World} {X base : Nat} {r sz : Int} {v o : Value} {E : List Ed} {L : List tupF} (h : FoSt w X base r sz v E o L) (hX : X < w.heap.size) (hb : Below w.heap.size w w') : FoSt w' X base r sz v E o L := by
 obtain ⟨h1, h0, lo, hi, h2, h3, h3', h4, h5, h6⟩ := h
 exact ⟨by rw [hb.block X hX]; exact h1, h0.later hb (Nat.le_refl _), lo, hi, h2.below hb h4, h3, h3', Nat.le_trans h4 hb.size, h5, h6⟩
theorem FoSt.drew {w : World} {X base : Nat} {r sz : Int} {v o : Value} {E : List Ed} {L : List tupF} (h : FoSt w X base r sz v E o L) : FoSt w.drew X base r sz v E o L := h
theorem FoSt.store {w w' : World} {X base : Nat} {r sz sz' : Int} {v v' o : Value} {E E' : List Ed} {L : List tupF} (h : FoSt w X base r sz v E o L) (hX : X < w.heap.size) (hb : Below w.heap.size w w') (hbase : base ≤ w.heap.size) (hr : RowS 68 3 w' w.heap.size w'.heap.size v' E'.length (flatE E')) :
 FoSt (((w'.setCell ⟨X, 0, none⟩ (.int .i64 r)).setCell ⟨X, 1, none⟩ (.int .i64 sz')).setCell ⟨X, 2, none⟩ v') X base r sz' v' E' o L := by
 obtain ⟨h1, h0, lo, hi, h2, h3, h3', h4, h5, h6⟩ := h
 have hlt := World.ownsRow.lt h0
 refine ⟨set3 ((hb.block X hX).trans h1) _ _ _, ?_, w.heap.size, w'.heap.size, hr.set3_ (.inl hX), hbase, hb.size, by rw [size_set3]; exact Nat.le_refl _, .inr hX, fun b hb' => .inl (hlt b hb').2⟩
 refine (h0.later hb (Nat.le_refl _)).other fun b hb' => heap_set3 ?_
 have := (hlt b hb').1
 omega
theorem FoSt.push {w w' : World} {O : Obj} {X base : Nat} {r sz : Int} {v o o' : Value} {E : List Ed} {L L' : List tupF} (h : FoSt w X base r sz v E o L) (hX : X < w.heap.size) (ho : OwnsF w' (X + 1) o' L') (hg : (w.alloc O).grownBy w' o.ownBlock) (hloc : o'.ownBlock = o.ownBlock ∨ o'.ownBlock = some (w.heap.size + 1)) :
 FoSt w' X base r sz v E o' L' := by
 obtain ⟨h1, h0, lo, hi, h2, h3, h3', h4, h5, h6⟩ := h
 have hlt := World.ownsRow.lt h0
 have hsz := hg.size
 simp at hsz
 refine ⟨?_, ho, lo, hi, h2.keep (fun q q1 q2 => ?_), h3, h3', by omega, h5, fun b hb => ?_⟩
 · rw [hg.block X (by simp; omega) (fun e => by have := (hlt X e.symm).1; omega), heap_alloc_old _ _ hX]; exact h1
 · rw [hg.block q (by simp; omega) (fun e => by have := h6 q e.symm; omega), heap_alloc_old _ _ (by omega)]
 · rcases hloc with e | e
   · exact h6 b (e ▸ hb)
   · have := Option.some.inj (e.symm.trans hb)
     right; omega
theorem fo_fin {w w9 : World} {X R base cap : Nat} {r s' : Int} {E : List Ed} {L : List tupF} {a : Option Addr} {o : Value} (hR : w.heap.size ≤ R) (hRX : R < base) (hRX' : R ≤ X) (hbw : Below w.heap.size w w9) (h : FoSt w9 X base r s' (.slice a E.length cap) E o L) (hl : L.length ≤ 1000) :
 LwGraphFolds w r s' E L (.returned (.tuple #[.agg #[.int .i64 r, .int .i64 s', .slice a E.length cap], o])) (((w9.setCell ⟨R, 0, none⟩ (.int .i64 r)).setCell ⟨R, 1, none⟩ (.int .i64 s')).setCell ⟨R, 2, none⟩ (.slice a E.length cap)) := by
 obtain ⟨h1, h0, lo, hi, h2, h3, h3', h4, h5, h6⟩ := h
 have hrow := OwnsS.row h0 (by omega)
 have hrowg : RowS 68 3 (((w9.setCell ⟨R, 0, none⟩ (.int .i64 r)).setCell ⟨R, 1, none⟩ (.int .i64 s')).setCell ⟨R, 2, none⟩ (.slice a E.length cap)) lo hi (.slice a E.length cap) E.length (flatE E) := RowS.set3_ h2 (.inl (by omega))
 have hrowf : RowS 83 2 (((w9.setCell ⟨R, 0, none⟩ (.int .i64 r)).setCell ⟨R, 1, none⟩ (.int .i64 s')).setCell ⟨R, 2, none⟩ (.slice a E.length cap)) (X + 1) w9.heap.size o L.length (flatF L) := RowS.set3_ hrow (.inl (by omega))
 have hbe := below_set3 (x0 := .int .i64 r) (x1 := .int .i64 s') (x2 := .slice a E.length cap) hbw hR
 rcases h0.2 with ⟨rfl, h00⟩ | ⟨g, cap', cur, rfl, hg1, hg2, _⟩
 · exact ⟨a, cap, _, lo, hi, w.heap.size, w.heap.size, rfl, ⟨by omega, h3', by rw [size_set3]; exact h4, Nat.le_refl _, Nat.le_refl _, by rw [size_set3]; have := hbw.size; omega, by omega⟩, hrowg, ⟨by rw [flatF_length], by omega, .inl ⟨rfl, h00⟩⟩, hbe⟩
 · have hgl := (World.ownsRow.lt h0 g rfl).2
   have hrow1 : RowS 83 2 (((w9.setCell ⟨R, 0, none⟩ (.int .i64 r)).setCell ⟨R, 1, none⟩ (.int .i64 s')).setCell ⟨R, 2, none⟩ (.slice a E.length cap)) g (g + 1) (.slice (some ⟨g, 0, none⟩) L.length cap') L.length (flatF L) := by
    obtain ⟨q1, q2, ⟨q3, q4⟩ | ⟨g', off', cap2, cur', q3, q4, q5, q6, q7, q8⟩⟩ := hrowf
    · cases q3
    · have e := q3
      injection e with e1 _ _
      injection e1 with e1
      injection e1 with e1 _ _
      subst e1
      exact ⟨q1, q2, .inr ⟨g, off', cap2, cur', q3, Nat.le_refl _, by omega, q6, q7, q8⟩⟩
   exact ⟨a, cap, _, lo, hi, g, g + 1, rfl, ⟨by omega, h3', by rw [size_set3]; exact h4, by omega, by omega, by rw [size_set3]; omega, by have := h6 g rfl; omega⟩, hrowg, hrow1, hbe⟩
end Go.Proofs.YtjnhhhnehkmfmaaGreat
