/- Folded graphs, the model: IsFolded. Folded graphs, the model: NextVertex, WalkWord, ReadLength. Folded graphs, the model: WalkWord, ReadLength (tools/fs3.py). Connected vertices, the model: l4Has, ReachedFrom. -/
import Derived.Test.YtgngfffmkjckdaaGreatDoorQD
import Derived.Test.YtgngfffmkjckdaaGreatDoorQC
namespace Go.Proofs.YtgngfffmkjckdaaGreatDoor
open Go.RowKit
set_option linter.unusedVariables false
set_option linter.unusedSimpArgs false

theorem isFo_true {r s : Int} {es : List Ed} (hg : isGr r s es = true) (h : ∀ i, i < es.length → ∀ k, k < i → ¬ Meets (es.getD i e0) (es.getD k e0)) : isFo r s es = true := by
  unfold isFo; rw [hg, foldB_iff.2 h]; rfl
theorem isFo_not {r s : Int} {es : List Ed} {i k : Nat} (hi : i < es.length) (hk : k < i) (h : Meets (es.getD i e0) (es.getD k e0)) : isFo r s es = false := by
  unfold isFo; rw [foldB_not hi hk h, Bool.and_false]
theorem isFo_gr {r s : Int} {es : List Ed} (hg : isGr r s es = false) : isFo r s es = false := by
  unfold isFo; rw [hg]; rfl
end Go.Proofs.YtgngfffmkjckdaaGreatDoor

namespace Go.Proofs.YtgngfffmkjckdaaGreatDoor
open Go.RowKit
set_option linter.unusedVariables false
set_option linter.unusedSimpArgs false

def LwIntBool (w : World) (n : Int) (b : Bool) (e : Ending) (w' : World) : Prop := e = .returned (.tuple #[.int .i64 n, .bool b]) ∧ Below w.heap.size w w'
end Go.Proofs.YtgngfffmkjckdaaGreatDoor

namespace Go.Proofs.YtgngfffmkjckdaaGreatDoor
open Go.RowKit
set_option linter.unusedVariables false
set_option linter.unusedSimpArgs false

theorem walkB_no {r s : Int} {es : List Ed} {v : Int} {w : List Int} (h : okWk r s es v = false) : walkB r s es v w = false ∧ walkV r s es v w = -1 ∧ readN r s es v w = 0 := by
  have hB : walkB r s es v w = false := by unfold walkB; rw [h]; rfl
  refine ⟨hB, ?_, ?_⟩
  · unfold walkV; rw [hB]; rfl
  · unfold readN; rw [h]; rfl
theorem walkB_end {r s : Int} {es : List Ed} {v x : Int} {w : List Int} (h : okWk r s es v = true) (hw : wk es v w = (x, w.length)) : walkB r s es v w = true ∧ walkV r s es v w = x ∧ readN r s es v w = (w.length : Int) := by
  have hB : walkB r s es v w = true := by unfold walkB; rw [h, hw]; simp
  refine ⟨hB, ?_, ?_⟩
  · unfold walkV; rw [hB, hw]; rfl
  · unfold readN; rw [h, hw]; rfl
theorem walkB_stop {r s : Int} {es : List Ed} {v x : Int} {w : List Int} {k : Nat} (h : okWk r s es v = true) (hw : wk es v w = (x, k)) (hk : k < w.length) : walkB r s es v w = false ∧ walkV r s es v w = -1 ∧ readN r s es v w = (k : Int) := by
  have hB : walkB r s es v w = false := by unfold walkB; rw [h, hw]; simp; omega
  refine ⟨hB, ?_, ?_⟩
  · unfold walkV; rw [hB]; rfl
  · unfold readN; rw [h, hw]; rfl
end Go.Proofs.YtgngfffmkjckdaaGreatDoor

namespace Go.Proofs.YtgngfffmkjckdaaGreatDoor
open Go.RowKit
set_option linter.unusedVariables false
set_option linter.unusedSimpArgs false

theorem asc_len {s : Nat} {L : List Int} (ha : L.Pairwise (· < ·)) (hin : ∀ y ∈ L, 0 ≤ y ∧ y < (s : Int)) : L.length ≤ s := by
  have e : upTo L s = L := asc_ext (asc_upTo s) ha fun y => by
    rw [mem_upTo]
    exact ⟨fun h => h.1, fun h => ⟨h, (hin y h).1, (hin y h).2⟩⟩
  rw [← e]
  exact upTo_length L s
theorem passE_next {es : List Ed} {acc : List Int} {j : Nat} (h : j < es.length) : passE (es.take (j + 1)) acc = touchE (passE (es.take j) acc) (es.getD j e0) := by
  unfold passE
  rw [take_one h, List.foldl_append]; rfl
theorem mid_len {s : Nat} {es : List Ed} {x : Int} (hE : EndsIn s es) (hx : 0 ≤ x ∧ x < (s : Int)) (k j : Nat) : (passE (es.take j) (passN es k [x])).length ≤ s := by
  refine asc_len (asc_passE _ (asc_passN es (List.pairwise_singleton _ _) k)) (passE_in (fun e he => hE e (List.mem_of_mem_take he)) (passN_in hE (fun y hy => ?_) k))
  rw [List.mem_singleton] at hy; omega
theorem touch1_length (acc : List Int) (e : Ed) : (touch1 acc e).length ≤ acc.length + 1 := by
  unfold touch1; split
  · exact addZ_length _ _
  · omega
end Go.Proofs.YtgngfffmkjckdaaGreatDoor
