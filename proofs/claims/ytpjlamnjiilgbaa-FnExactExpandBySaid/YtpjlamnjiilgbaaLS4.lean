/- Lists of words as the laws' walks want them (tools/lawgen2.py, answers of kind 'words'). -/
import Derived.Test.YtpjlamnjiilgbaaLS3
namespace Go.Proofs.Ytpjlamnjiilgbaa
open Go.RowKit
set_option linter.unusedVariables false

/-- What a function leaves that hands back a list of words of its own. -/
def LwWords (w : World) (zss : List (List Int)) (e : Ending) (w' : World) : Prop :=
  ∃ v us, e = .returned v ∧ RowSS w' w.heap.size w'.heap.size v us zss ∧ Below w.heap.size w w'
theorem RowSS.keep {w w' : World} {lo hi : Nat} {v : Value} {us : List Value} {zss : List (List Int)} (h : RowSS w lo hi v us zss) (hb : ∀ k, lo ≤ k → k < hi → w'.heap[k]? = w.heap[k]?) : RowSS w' lo hi v us zss := by
  obtain ⟨h1, h2, h3, h4, h5⟩ := h
  refine ⟨h1, h2, ?_, fun i hi => (h4 i hi).keep hb, h5⟩
  rcases h3 with e | ⟨g, off, cap, cur, q0, q1, q2, q3, q4, q5⟩
  · exact .inl e
  · exact .inr ⟨g, off, cap, cur, q0, q1, q2, q3, by rw [hb g q1 q2]; exact q4, q5⟩
theorem RowSS.below {w w' : World} {lo hi B : Nat} {v : Value} {us : List Value} {zss : List (List Int)} (h : RowSS w lo hi v us zss) (hb : Below B w w') (hB : hi ≤ B) : RowSS w' lo hi v us zss :=
  h.keep fun k _ hk => hb.block k (by omega)
theorem RowSS.only {w w' : World} {lo hi lo' hi' : Nat} {v : Value} {us : List Value} {zss : List (List Int)} (h : RowSS w lo hi v us zss) (ho : Only lo' hi' w w') (hd : hi ≤ lo' ∨ hi' ≤ lo) : RowSS w' lo hi v us zss :=
  h.keep fun k h1 h2 => ho.block k (by omega)
theorem RowSS.wide {w : World} {lo hi lo' hi' : Nat} {v : Value} {us : List Value} {zss : List (List Int)} (h : RowSS w lo hi v us zss) (h1 : lo' ≤ lo) (h2 : hi ≤ hi') : RowSS w lo' hi' v us zss := by
  obtain ⟨g1, g2, g3, g4, g5⟩ := h
  refine ⟨g1, g2, ?_, fun i hi => (g4 i hi).wide h1 h2, g5⟩
  rcases g3 with e | ⟨g, off, cap, cur, q0, q1, q2, q3⟩
  · exact .inl e
  · exact .inr ⟨g, off, cap, cur, q0, by omega, by omega, q3⟩
theorem eqSS_law (w : World) (v1 v2 : Value) (zss : List (List Int)) (h1 : ReadSS w.heap.size w v1 zss) (h2 : ReadSS w.heap.size w v2 zss) :
    Calls Try.prog 10 #[v1, v2] w (SameRet w true) :=
  (eqSS_same w w.heap.size v1 v2 zss h1 h2).mono fun e w' ⟨he, n, hw⟩ => ⟨he, by rw [hw]; exact below_dn (Below.refl _ _) n, by rw [hw]; rfl⟩
end Go.Proofs.Ytpjlamnjiilgbaa
