/- Slices of ints: what it is to be read (ReadI), to be of the call's own (RowI). -/
import Derived.Test.YtpjlamnjiilgbaaRows
import Derived.WalkKit
import Derived.WalkLawsBesides
import Derived.WalkSpells
import Derived.ProofKit
import Derived.Outline
import Derived.Deep.QuietTactic
import Derived.BigQuiet
import Derived.Deep.RegionLaw
import Derived.IntWalk
import Derived.Laws.MakeOwn
namespace Go.Proofs.Ytpjlamnjiilgbaa
open Go.RowKit
set_option linter.unusedVariables false

theorem hidI {p : Prop} (h : p) : Hid p := h
/-- An int as a value. -/
def iv (z : Int) : Value := .int .i64 z
/-- v can be read as the ints zs; its cells lie below block B. -/
def ReadI (B : Nat) (w : World) (v : Value) (zs : List Int) : Prop :=
  zs.length ≤ 140737488355328 ∧ ∃ a cap, v = .slice a zs.length cap ∧ ((a = none → cap = 0) ∧ zs.length ≤ cap) ∧ (zs = [] ∨ ∃ b off, a = some ⟨b, off, none⟩ ∧ b < B ∧ ∀ i, i < zs.length → w.cell? ⟨b, off + i, none⟩ = some (.int .i64 (zs.getD i 0)))
/-- v is of the call's own, in a block from lo on and below hi, and holds zs. -/
def RowI (w : World) (lo hi : Nat) (v : Value) (zs : List Int) : Prop :=
  zs.length ≤ 140737488355328 ∧ ((v = .slice none 0 0 ∧ zs = []) ∨
  ∃ g off cap cur, v = .slice (some ⟨g, off, none⟩) zs.length cap ∧ lo ≤ g ∧ g < hi ∧ zs.length ≤ cap ∧ w.heap[g]? = some (.cells cur 3 (0, 0)) ∧ ∀ i, i < zs.length → cur[off + i]? = some (.int .i64 (zs.getD i 0)))
theorem ReadI.below {B : Nat} {w w' : World} {v : Value} {zs : List Int} (h : ReadI B w v zs) (hb : Below B w w') : ReadI B w' v zs := by
  obtain ⟨hl, a, cap, hv, hnil, hc⟩ := h
  refine ⟨hl, a, cap, hv, hnil, hc.imp id ?_⟩
  rintro ⟨b, off, ha, hB, hcell⟩
  exact ⟨b, off, ha, hB, fun i hi => by rw [hb.cell (p := ⟨b, off + i, none⟩) hB]; exact hcell i hi⟩
theorem ReadI.mono {B B' : Nat} {w : World} {v : Value} {zs : List Int} (h : ReadI B w v zs) (hB : B ≤ B') : ReadI B' w v zs := by
  obtain ⟨hl, a, cap, hv, hnil, hc⟩ := h
  refine ⟨hl, a, cap, hv, hnil, hc.imp id ?_⟩
  rintro ⟨b, off, ha, hb, hcell⟩
  exact ⟨b, off, ha, by omega, hcell⟩
theorem RowI.read {w : World} {lo hi : Nat} {v : Value} {zs : List Int} (h : RowI w lo hi v zs) : ReadI hi w v zs := by
  obtain ⟨hl, ⟨rfl, rfl⟩ | ⟨g, off, cap, cur, rfl, hlo, hhi, hcap, hh, hc⟩⟩ := h
  · exact ⟨hl, none, 0, rfl, ⟨fun _ => rfl, Nat.le_refl _⟩, .inl rfl⟩
  · refine ⟨hl, _, _, rfl, ⟨(fun e => by cases e), hcap⟩, .inr ⟨g, off, rfl, hhi, fun i hi => ?_⟩⟩
    simp only [World.cell?, hh]
    simpa using hc i hi
/-- A row stays where its blocks stay. -/
theorem RowI.keep {w w' : World} {lo hi : Nat} {v : Value} {zs : List Int} (h : RowI w lo hi v zs) (hb : ∀ k, lo ≤ k → k < hi → w'.heap[k]? = w.heap[k]?) : RowI w' lo hi v zs := by
  obtain ⟨hl, h1 | ⟨g, off, cap, cur, hv, hlo, hhi, hcap, hh, hc⟩⟩ := h
  · exact ⟨hl, .inl h1⟩
  · exact ⟨hl, .inr ⟨g, off, cap, cur, hv, hlo, hhi, hcap, by rw [hb g hlo hhi]; exact hh, hc⟩⟩
theorem RowI.below {w w' : World} {lo hi B : Nat} {v : Value} {zs : List Int} (h : RowI w lo hi v zs) (hb : Below B w w') (hB : hi ≤ B) : RowI w' lo hi v zs :=
  h.keep (fun k _ hk => hb.block k (by omega))
theorem RowI.grown {w w' : World} {lo hi g : Nat} {v : Value} {zs : List Int} (h : RowI w lo hi v zs) (hg : w.grownBy w' (some g)) (hh : hi ≤ w.heap.size) (hne : g < lo ∨ hi ≤ g) : RowI w' lo hi v zs :=
  h.keep (fun k h1 h2 => hg.block k (by omega) (fun e => by cases e; omega))
theorem RowI.wide {w : World} {lo hi lo' hi' : Nat} {v : Value} {zs : List Int} (h : RowI w lo hi v zs) (h1 : lo' ≤ lo) (h2 : hi ≤ hi') : RowI w lo' hi' v zs := by
  obtain ⟨hl, h3 | ⟨g, off, cap, cur, hv, hlo, hhi, hcap, hh, hc⟩⟩ := h
  · exact ⟨hl, .inl h3⟩
  · exact ⟨hl, .inr ⟨g, off, cap, cur, hv, by omega, by omega, hcap, hh, hc⟩⟩
/-- From the kit's word for a row of the call's own. -/
theorem RowI.of_owns {w : World} {base : Nat} {v : Value} {zs : List Int} (h : w.ownsRow base 3 1 v zs.length (zs.map iv)) (hl : zs.length ≤ 140737488355328) : RowI w base w.heap.size v zs := by
  have hlt := h.lt
  have hcs : ∀ g, v.ownBlock = some g → _ := fun g hg => h.cells (g := g) hg
  obtain ⟨hlen, ⟨rfl, hn⟩ | ⟨g, cap, cur, rfl, hg, hh, hcap, hmax, hsz, htk⟩⟩ := h
  · exact ⟨hl, .inl ⟨rfl, List.length_eq_zero_iff.1 hn⟩⟩
  · refine ⟨hl, .inr ⟨g, 0, cap, cur, rfl, hg, (hlt g rfl).2, hcap, hh, fun i hi => ?_⟩⟩
    have h1 : (zs.map iv)[i]? = some (iv (zs.getD i 0)) := by simp [hi]
    rw [← htk, List.getElem?_take] at h1
    split at h1
    · rw [Nat.zero_add, ← Array.getElem?_toList]; exact h1
    · cases h1
/-- The cell of a readable slice. -/
theorem ReadI.at2 {B : Nat} {w : World} {a : Option Addr} {n cap : Nat} {zs : List Int} (h : ReadI B w (.slice a n cap) zs) (i : Nat) (hi : i < zs.length) :
    ∃ b off, a = some ⟨b, off, none⟩ ∧ b < B ∧ w.cell? ⟨b, off + i, none⟩ = some (.int .i64 (zs.getD i 0)) := by
  obtain ⟨_, a', cap', hv, _, hr⟩ := h
  simp only [Value.slice.injEq] at hv
  obtain ⟨rfl, _, rfl⟩ := hv
  rcases hr with h0 | ⟨b, off, ha, hB, hc⟩
  · rw [h0] at hi; simp at hi
  · exact ⟨b, off, ha, hB, hc i hi⟩
end Go.Proofs.Ytpjlamnjiilgbaa
