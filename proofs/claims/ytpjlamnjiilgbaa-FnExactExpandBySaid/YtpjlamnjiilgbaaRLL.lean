/- Slices of slices of ints that can be read. -/
import Derived.Test.YtpjlamnjiilgbaaR
namespace Go.Proofs.Ytpjlamnjiilgbaa
open Go.RowKit
set_option linter.unusedVariables false
set_option linter.unusedSimpArgs false

/-- v can be read as the lists of ints zss; all lies below block B. -/
def ReadLL (B : Nat) (w : World) (v : Value) (zss : List (List Int)) : Prop :=
  zss.length ≤ 140737488355328 ∧ ∃ a cap, v = .slice a zss.length cap ∧ (zss = [] ∨ ∃ b off, a = some ⟨b, off, none⟩ ∧ b < B ∧ ∀ i, i < zss.length → ∃ vi, w.cell? ⟨b, off + i, none⟩ = some vi ∧ ReadI B w vi (zss.getD i []))
theorem ReadLL.below {B : Nat} {w w' : World} {v : Value} {zss : List (List Int)} (h : ReadLL B w v zss) (hb : Below B w w') : ReadLL B w' v zss := by
  obtain ⟨hl, a, cap, hv, hc⟩ := h
  refine ⟨hl, a, cap, hv, hc.imp id ?_⟩
  rintro ⟨b, off, ha, hB, hcell⟩
  refine ⟨b, off, ha, hB, fun i hi => ?_⟩
  obtain ⟨vi, h1, h2⟩ := hcell i hi
  exact ⟨vi, by rw [hb.cell (p := ⟨b, off + i, none⟩) hB]; exact h1, h2.below hb⟩
theorem ReadLL.at_ {B : Nat} {w : World} {a : Option Addr} {n cap : Nat} {zss : List (List Int)} (h : ReadLL B w (.slice a n cap) zss) (i : Nat) (hi : i < zss.length) :
    ∃ b off vi, a = some ⟨b, off, none⟩ ∧ b < B ∧ w.cell? ⟨b, off + i, none⟩ = some vi ∧ ReadI B w vi (zss.getD i []) := by
  obtain ⟨_, a', cap', hv, hr⟩ := h
  simp only [Value.slice.injEq] at hv
  obtain ⟨rfl, _, rfl⟩ := hv
  rcases hr with h0 | ⟨b, off, ha, hB, hc⟩
  · rw [h0] at hi; simp at hi
  · obtain ⟨vi, h1, h2⟩ := hc i hi
    exact ⟨b, off, vi, ha, hB, h1, h2⟩
theorem getD_lists {zss : List (List Int)} {i : Nat} (h : i < zss.length) : zss.getD i [] = zss[i] := by rw [List.getD_eq_getElem?_getD, List.getElem?_eq_getElem h]; rfl
theorem take_flat {zss : List (List Int)} {k : Nat} (h : k < zss.length) : (zss.take (k + 1)).flatten = (zss.take k).flatten ++ zss.getD k [] := by
  rw [List.take_succ_eq_append_getElem h, List.flatten_append, getD_lists h]; simp
theorem take_flat_le (zss : List (List Int)) (k : Nat) : (zss.take k).flatten.length ≤ zss.flatten.length := by
  have : zss.flatten = (zss.take k).flatten ++ (zss.drop k).flatten := by rw [← List.flatten_append, List.take_append_drop]
  rw [this, List.length_append]; omega
end Go.Proofs.Ytpjlamnjiilgbaa
