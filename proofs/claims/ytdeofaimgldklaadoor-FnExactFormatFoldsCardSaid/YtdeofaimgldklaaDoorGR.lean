/- Slices of structs of ints, as flat lists of ints: what it is to be read (ReadS), to be of the call's own (RowS). -/
import Derived.Test.YtdeofaimgldklaaDoorLW2
import Derived.Test.YtdeofaimgldklaaDoorSI
import Derived.Laws.OwnMore
namespace Go.Proofs.YtdeofaimgldklaaDoor
open Go.RowKit
set_option linter.unusedVariables false

/-- v can be read as n elements of sz ints each, all in zs; the cells lie below block B. -/
def ReadS (sz B : Nat) (w : World) (v : Value) (n : Nat) (zs : List Int) : Prop :=
  zs.length = n * sz ∧ n ≤ 4000000000000 ∧ ∃ a cap, v = .slice a n cap ∧ ((a = none → cap = 0) ∧ n ≤ cap) ∧ (n = 0 ∨ ∃ b off, a = some ⟨b, off, none⟩ ∧ b < B ∧ ∀ k, k < n * sz → w.cell? ⟨b, off + k, none⟩ = some (.int .i64 (zs.getD k 0)))
/-- v is of the call's own, in a block of type T from lo on and below hi. -/
def RowS (T : TypeId) (sz : Nat) (w : World) (lo hi : Nat) (v : Value) (n : Nat) (zs : List Int) : Prop :=
  zs.length = n * sz ∧ n ≤ 4000000000000 ∧ ((v = .slice none 0 0 ∧ n = 0) ∨
  ∃ g off cap cur, v = .slice (some ⟨g, off, none⟩) n cap ∧ lo ≤ g ∧ g < hi ∧ n ≤ cap ∧ w.heap[g]? = some (.cells cur T (0, 0)) ∧ ∀ k, k < n * sz → cur[off + k]? = some (.int .i64 (zs.getD k 0)))
section
variable {T : TypeId} {sz n : Nat} {w w' : World} {v : Value} {zs : List Int}
theorem ReadS.below {B : Nat} (h : ReadS sz B w v n zs) (hb : Below B w w') : ReadS sz B w' v n zs := by
  obtain ⟨h0, hl, a, cap, hv, hnil, hc⟩ := h
  refine ⟨h0, hl, a, cap, hv, hnil, hc.imp id ?_⟩
  rintro ⟨b, off, ha, hB, hcell⟩
  exact ⟨b, off, ha, hB, fun i hi => by rw [hb.cell (p := ⟨b, off + i, none⟩) hB]; exact hcell i hi⟩
theorem ReadS.mono {B B' : Nat} (h : ReadS sz B w v n zs) (hB : B ≤ B') : ReadS sz B' w v n zs := by
  obtain ⟨h0, hl, a, cap, hv, hnil, hc⟩ := h
  refine ⟨h0, hl, a, cap, hv, hnil, hc.imp id ?_⟩
  rintro ⟨b, off, ha, hb, hcell⟩
  exact ⟨b, off, ha, by omega, hcell⟩
theorem ReadS.form {B : Nat} (h : ReadS sz B w v n zs) : ∃ a cap, v = .slice a n cap ∧ n ≤ cap := by
  obtain ⟨_, _, a, cap, hv, hc, _⟩ := h
  exact ⟨a, cap, hv, hc.2⟩
/-- The cell of a readable slice. -/
theorem ReadS.at_ {B : Nat} {a : Option Addr} {m cap : Nat} (h : ReadS sz B w (.slice a m cap) n zs) (i : Nat) (hi : i < n) :
    ∃ b off, a = some ⟨b, off, none⟩ ∧ b < B ∧ ∀ j, j < sz → w.cell? ⟨b, off + i * sz + j, none⟩ = some (.int .i64 (zs.getD (i * sz + j) 0)) := by
  obtain ⟨_, _, a', cap', hv, _, hr⟩ := h
  simp only [Value.slice.injEq] at hv
  obtain ⟨rfl, _, rfl⟩ := hv
  rcases hr with h0 | ⟨b, off, ha, hB, hc⟩
  · omega
  · refine ⟨b, off, ha, hB, fun j hj => ?_⟩
    have h1 : (i + 1) * sz ≤ n * sz := Nat.mul_le_mul_right _ hi
    rw [Nat.add_mul] at h1
    rw [Nat.add_assoc]
    exact hc (i * sz + j) (by omega)
theorem ReadS.len {B : Nat} {a : Option Addr} {m cap : Nat} (h : ReadS sz B w (.slice a m cap) n zs) : m = n := by
  obtain ⟨_, _, a', cap', hv, _⟩ := h
  simp only [Value.slice.injEq] at hv
  exact hv.2.1
theorem RowS.read {lo hi : Nat} (h : RowS T sz w lo hi v n zs) : ReadS sz hi w v n zs := by
  obtain ⟨h0, hl, ⟨rfl, rfl⟩ | ⟨g, off, cap, cur, rfl, hlo, hhi, hcap, hh, hc⟩⟩ := h
  · exact ⟨h0, hl, none, 0, rfl, ⟨fun _ => rfl, Nat.le_refl _⟩, .inl rfl⟩
  · refine ⟨h0, hl, _, _, rfl, ⟨(fun e => by cases e), hcap⟩, .inr ⟨g, off, rfl, hhi, fun i hi => ?_⟩⟩
    simp only [World.cell?, hh]
    simpa using hc i hi
theorem RowS.keep {lo hi : Nat} (h : RowS T sz w lo hi v n zs) (hb : ∀ k, lo ≤ k → k < hi → w'.heap[k]? = w.heap[k]?) : RowS T sz w' lo hi v n zs := by
  obtain ⟨h0, hl, h1 | ⟨g, off, cap, cur, hv, hlo, hhi, hcap, hh, hc⟩⟩ := h
  · exact ⟨h0, hl, .inl h1⟩
  · exact ⟨h0, hl, .inr ⟨g, off, cap, cur, hv, hlo, hhi, hcap, by rw [hb g hlo hhi]; exact hh, hc⟩⟩
theorem RowS.below {lo hi B : Nat} (h : RowS T sz w lo hi v n zs) (hb : Below B w w') (hB : hi ≤ B) : RowS T sz w' lo hi v n zs :=
  h.keep (fun k _ hk => hb.block k (by omega))
theorem RowS.wide {lo hi lo' hi' : Nat} (h : RowS T sz w lo hi v n zs) (h1 : lo' ≤ lo) (h2 : hi ≤ hi') : RowS T sz w lo' hi' v n zs := by
  obtain ⟨h0, hl, h3 | ⟨g, off, cap, cur, hv, hlo, hhi, hcap, hh, hc⟩⟩ := h
  · exact ⟨h0, hl, .inl h3⟩
  · exact ⟨h0, hl, .inr ⟨g, off, cap, cur, hv, by omega, by omega, hcap, hh, hc⟩⟩
theorem RowS.only {lo hi lo' hi' : Nat} (h : RowS T sz w lo hi v n zs) (ho : Only lo' hi' w w') (hd : hi ≤ lo' ∨ hi' ≤ lo) : RowS T sz w' lo hi v n zs :=
  h.keep (fun k h1 h2 => ho.block k (by omega))
theorem RowS.stored {lo hi g off m cap : Nat} (h : RowS T sz w lo hi (.slice (some ⟨g, off, none⟩) m cap) n zs) (i : Nat) (z : Int) :
    RowS T sz (w.setCell ⟨g, off + i, none⟩ (.int .i64 z)) lo hi (.slice (some ⟨g, off, none⟩) m cap) n (zs.set i z) := by
  obtain ⟨h0, hl, ⟨h1, _⟩ | ⟨g', off', cap', cur, hv, hlo, hhi, hcap, hh, hc⟩⟩ := h
  · cases h1
  · simp only [Value.slice.injEq, Option.some.injEq, Addr.mk.injEq, and_true] at hv
    obtain ⟨⟨rfl, rfl⟩, rfl, rfl⟩ := hv
    refine ⟨by simpa using h0, hl, .inr ⟨g, off, cap, cur.setIfInBounds (off + i) (.int .i64 z), rfl, hlo, hhi, hcap, heap_setCell_same w g (off + i) cur _ _ hh, fun j hj => ?_⟩⟩
    by_cases hji : j = i
    · subst hji
      have hlt : off + j < cur.size := (Array.getElem?_eq_some_iff.1 (hc j hj)).1
      rw [Array.getElem?_setIfInBounds_self_of_lt hlt]
      simp [List.getD_eq_getElem?_getD, show j < zs.length by omega]
    · rw [Array.getElem?_setIfInBounds_ne (by omega), hc j hj]
      simp [List.getD_eq_getElem?_getD, show ¬ i = j by omega]
theorem RowS.facts {lo hi g off m cap : Nat} (h : RowS T sz w lo hi (.slice (some ⟨g, off, none⟩) m cap) n zs) (i : Nat) (hi' : i < n * sz) :
    lo ≤ g ∧ g < hi ∧ w.cell? ⟨g, off + i, none⟩ = some (.int .i64 (zs.getD i 0)) ∧ w.frozen? ⟨g, off + i, none⟩ = false := by
  obtain ⟨h0, hl, ⟨h1, _⟩ | ⟨g', off', cap', cur, hv, hlo, hhi, hcap, hh, hc⟩⟩ := h
  · cases h1
  · simp only [Value.slice.injEq, Option.some.injEq, Addr.mk.injEq, and_true] at hv
    obtain ⟨⟨rfl, rfl⟩, rfl, rfl⟩ := hv
    refine ⟨hlo, hhi, ?_, frozen_of_row w g (off + i) cur _ hh⟩
    rw [World.cell?, hh]
    simpa using hc i hi'
theorem RowS.cap {lo hi m c : Nat} {a : Option Addr} (h : RowS T sz w lo hi (.slice a m c) n zs) : m = n ∧ n ≤ c := by
  obtain ⟨h0, hl, ⟨h1, h2⟩ | ⟨g', off', cap', cur, hv, hlo, hhi, hcap, hh, hc⟩⟩ := h
  · cases h1; omega
  · simp only [Value.slice.injEq] at hv
    obtain ⟨_, rfl, rfl⟩ := hv
    exact ⟨rfl, hcap⟩
theorem RowS.form {lo hi : Nat} (h : RowS T sz w lo hi v n zs) (h0 : 0 < n) : ∃ g off cap, v = .slice (some ⟨g, off, none⟩) n cap ∧ lo ≤ g ∧ g < hi := by
  obtain ⟨_, hl, ⟨_, h2⟩ | ⟨g, off, cap, cur, hv, hlo, hhi, hcap, hh, hc⟩⟩ := h
  · omega
  · exact ⟨g, off, cap, hv, hlo, hhi⟩
/-- v is a slice of the call's own, of n elements, at the head of its block. -/
def OwnsS (T : TypeId) (sz : Nat) (w : World) (base : Nat) (v : Value) (n : Nat) (zs : List Int) : Prop := w.ownsRow base T sz v n (zs.map iv)
theorem OwnsS.row {base : Nat} (h : OwnsS T sz w base v n zs) (hl : n ≤ 4000000000000) : RowS T sz w base w.heap.size v n zs := by
  have hlt := World.ownsRow.lt h
  obtain ⟨hlen, ⟨rfl, hn⟩ | ⟨g, cap, cur, rfl, hg, hh, hcap, hmax, hsz, htk⟩⟩ := h
  · exact ⟨by simpa using hlen, hl, .inl ⟨rfl, hn⟩⟩
  · rw [List.length_map] at hlen
    refine ⟨hlen, hl, .inr ⟨g, 0, cap, cur, rfl, hg, (hlt g rfl).2, hcap, hh, fun i hi => ?_⟩⟩
    have h1 : (zs.map iv)[i]? = some (iv (zs.getD i 0)) := by simp [show i < zs.length by omega]
    rw [← htk, List.getElem?_take, if_pos hi] at h1
    rw [Nat.zero_add, ← Array.getElem?_toList]
    exact h1
theorem OwnsS.drewN {base : Nat} (h : OwnsS T sz w base v n zs) (k : Nat) : OwnsS T sz (w.drewN k) base v n zs := h
theorem OwnsS.mono {base base' : Nat} (h : OwnsS T sz w base v n zs) (hb : base' ≤ base) : OwnsS T sz w base' v n zs := by
  obtain ⟨h1, h2⟩ := h
  refine ⟨h1, h2.imp id ?_⟩
  rintro ⟨g, cap, cur, a, b, c⟩
  exact ⟨g, cap, cur, a, by omega, c⟩
theorem OwnsS.later {base B : Nat} (h : OwnsS T sz w base v n zs) (hb : Below B w w') (hB : w.heap.size ≤ B) : OwnsS T sz w' base v n zs := by
  have hlt := World.ownsRow.lt h
  obtain ⟨hlen, ⟨rfl, hn⟩ | ⟨g, cap, cur, rfl, hg, hh, hr⟩⟩ := h
  · exact ⟨hlen, .inl ⟨rfl, hn⟩⟩
  · refine ⟨hlen, .inr ⟨g, cap, cur, rfl, hg, ?_, hr⟩⟩
    rw [hb.block g (by have := (hlt g rfl).2; omega)]
    exact hh
/-- One cell of a row of the call's own is written. -/
theorem OwnsS.put {base g cap : Nat} (h : OwnsS T sz w base (.slice (some ⟨g, 0, none⟩) n cap) n zs) (j : Nat) (z : Int) : OwnsS T sz (w.setCell ⟨g, j, none⟩ (.int .i64 z)) base (.slice (some ⟨g, 0, none⟩) n cap) n (zs.set j z) := by
  have := (World.ownsRow.stored h j (iv z)).1
  rw [← List.map_set] at this
  exact this
theorem OwnsS.cell {base g cap : Nat} (h : OwnsS T sz w base (.slice (some ⟨g, 0, none⟩) n cap) n zs) (j : Nat) (hj : j < n * sz) : ∃ v, w.cell? ⟨g, j, none⟩ = some v := by
  rw [World.ownsRow.cellAt h j hj]
  have := h.1
  rw [List.length_map] at this
  exact ⟨_, List.getElem?_eq_getElem (by rw [List.length_map]; omega)⟩
theorem OwnsS.frozen {base g cap : Nat} (h : OwnsS T sz w base (.slice (some ⟨g, 0, none⟩) n cap) n zs) (j : Nat) : w.frozen? ⟨g, j, none⟩ = false := World.ownsRow.frozenAt h j
theorem OwnsS.lit (w : World) : OwnsS T sz (w.alloc (.cells #[] T)) w.heap.size (.slice (some ⟨w.heap.size, 0, none⟩) 0 0) 0 [] := World.ownsRow_lit w #[] 0 (Nat.le_refl _) (Nat.zero_le _) (by simp)
theorem OwnsS.nil (w : World) (base : Nat) : OwnsS T sz w base (.slice none 0 0) 0 [] := World.ownsRow_nil _ _ _ _
theorem OwnsS.form3 {base : Nat} (h : OwnsS T sz w base v n zs) : ∃ a m c, v = .slice a m c := by
  obtain ⟨hlen, ⟨rfl, hn⟩ | ⟨g, cap, cur, rfl, hg, hh, hcap, hmax, hsz, htk⟩⟩ := h
  · exact ⟨_, _, _, rfl⟩
  · exact ⟨_, _, _, rfl⟩
end
end Go.Proofs.YtdeofaimgldklaaDoor
