/- Words, the model: InvertWord, ReduceLetters, MultiplyWords. -/
import Derived.Test.YtdeofaimgldklaaSI
import Derived.Test.YtdeofaimgldklaaMW
import Derived.Deep.AppendLies
namespace Go.Proofs.Ytdeofaimgldklaa
open Go.RowKit
set_option linter.unusedVariables false

theorem below_dN {B : Nat} {a w : World} (h : Below B a w) (n : Nat) : Below B a (w.drewN n) := ⟨h.os, h.tape, h.output, h.size, h.block⟩
theorem intsRet_owns {w w' : World} {base : Nat} {v : Value} {zs : List Int} (h : OwnsI w' base v zs) (hb : Below w.heap.size w w') (hB : w.heap.size ≤ base) (hl : zs.length ≤ 140737488355328) : IntsRet w zs (.returned v) w' :=
  ⟨v, rfl, (h.row hl).wide hB (Nat.le_refl _), hb⟩
/-- The cell of a readable slice. -/
theorem ReadI.at_ {B : Nat} {w : World} {a : Option Addr} {n cap : Nat} {zs : List Int} (h : ReadI B w (.slice a n cap) zs) (i : Nat) (hi : i < zs.length) :
    ∃ b off, a = some ⟨b, off, none⟩ ∧ b < B ∧ w.cell? ⟨b, off + i, none⟩ = some (.int .i64 (zs.getD i 0)) := by
  obtain ⟨_, a', cap', hv, _, hr⟩ := h
  simp only [Value.slice.injEq] at hv
  obtain ⟨rfl, _, rfl⟩ := hv
  rcases hr with h0 | ⟨b, off, ha, hB, hc⟩
  · rw [h0] at hi; simp at hi
  · exact ⟨b, off, ha, hB, hc i hi⟩

theorem OwnsI.form {w : World} {base : Nat} {v : Value} {zs : List Int} (h : OwnsI w base v zs) (h0 : 0 < zs.length) :
    ∃ g cap, v = .slice (some ⟨g, 0, none⟩) zs.length cap ∧ base ≤ g ∧ g < w.heap.size ∧ zs.length ≤ cap := by
  obtain ⟨hl, ⟨rfl, hn⟩ | ⟨g, cap, cur, rfl, hg, hh, hcap, hmax, hsz, htk⟩⟩ := h
  · omega
  · exact ⟨g, cap, rfl, hg, (Array.getElem?_eq_some_iff.1 hh).1, hcap⟩
theorem OwnsI.form_any {w : World} {base : Nat} {v : Value} {zs : List Int} (h : OwnsI w base v zs) : ∃ a cap, v = .slice a zs.length cap := by
  obtain ⟨hl, ⟨rfl, hn⟩ | ⟨g, cap, cur, rfl, hg, hh, hcap, hmax, hsz, htk⟩⟩ := h
  · exact ⟨none, 0, by rw [hn]⟩
  · exact ⟨_, _, rfl⟩
theorem OwnsI.at_ {w : World} {base g n cap : Nat} {zs : List Int} (h : OwnsI w base (.slice (some ⟨g, 0, none⟩) n cap) zs) (hn : n = zs.length) (i : Nat) (hi : i < zs.length) :
    w.cell? ⟨g, i, none⟩ = some (.int .i64 (zs.getD i 0)) := by
  subst hn
  rw [World.ownsRow.cellAt h i (by omega), List.getElem?_map, List.getElem?_eq_getElem hi]
  simp [iv, List.getD_eq_getElem?_getD, hi]
theorem OwnsI.pop {w : World} {base g cap : Nat} {zs : List Int} (h : OwnsI w base (.slice (some ⟨g, 0, none⟩) zs.length cap) zs) (h0 : 0 < zs.length) :
    OwnsI w base (.slice (some ⟨g, 0, none⟩) (zs.length - 1) cap) (zs.take (zs.length - 1)) := by
  obtain ⟨n, hn⟩ : ∃ n, zs.length = n + 1 := ⟨zs.length - 1, by omega⟩
  have hl : (zs.take (zs.length - 1)).length = n := by rw [List.length_take]; omega
  unfold OwnsI at h ⊢
  rw [hl, show zs.length - 1 = n by omega]
  rw [hn] at h
  have e : zs.map iv = (zs.take n).map iv ++ (zs.drop n).map iv := by rw [← List.map_append, List.take_append_drop]
  rw [e] at h
  exact ownsRow_pop (by rw [List.length_map, List.length_take]; omega) h

/-- What a function that hands back a slice of its own, from the head of its block on, leaves. -/
def OwnRet (w : World) (zs : List Int) (e : Ending) (w' : World) : Prop := ∃ v, e = .returned v ∧ OwnsI w' w.heap.size v zs ∧ Below w.heap.size w w'
theorem ownRet_mk {w w' : World} {base : Nat} {v : Value} {zs : List Int} (h : OwnsI w' base v zs) (hb : Below w.heap.size w w') (hB : w.heap.size ≤ base) : OwnRet w zs (.returned v) w' := ⟨v, rfl, h.mono hB, hb⟩
end Go.Proofs.Ytdeofaimgldklaa
