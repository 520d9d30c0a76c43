/- The laws' own helpers on slices of ints: toIntS, eqIntS, markIntS, heldIntS. -/
import Derived.Test.YtdeofaimgldklaaDoorR
namespace Go.Proofs.YtdeofaimgldklaaDoor
open Go.RowKit
set_option linter.unusedVariables false

theorem infoInt : (Tryd.prog.info? 3).map (fun i => (i.zero, i.size, i.bytes)) = some (some (.int .i64 0), 1, 8) := by kernel_rfl
theorem made_ints (n : Nat) : (madeCells #[Value.int .i64 0] n).toList = (List.replicate n (0 : Int)).map iv := by
  rw [toList_madeCells_one]
  simp [iv]
theorem ret_bool {a b : Bool} (h : a = b) : Ending.returned (.bool a) = .returned (.bool b) := by rw [h]
theorem ret_i {a b : Int} (h : a = b) : Ending.returned (.int .i64 a) = .returned (.int .i64 b) := by rw [h]
/-- What a function that hands back one slice of ints leaves. -/
def IntsRet (w : World) (zs : List Int) (e : Ending) (w' : World) : Prop :=
  ∃ v, e = .returned v ∧ RowI w' w.heap.size w'.heap.size v zs ∧ Below w.heap.size w w'
/-- The copy, after k rounds. -/
def padI (zs : List Int) (k : Nat) : List Int := zs.take k ++ List.replicate (zs.length - k) 0
theorem padI_length (zs : List Int) (k : Nat) (h : k ≤ zs.length) : (padI zs k).length = zs.length := by simp [padI]; omega
theorem padI_zero (zs : List Int) : padI zs 0 = List.replicate zs.length 0 := by simp [padI]
theorem padI_full (zs : List Int) : padI zs zs.length = zs := by simp [padI]
theorem padI_step (zs : List Int) (k : Nat) (h : k < zs.length) : (padI zs k).set k (zs.getD k 0) = padI zs (k + 1) := by
  have e : zs.length - k = (zs.length - (k + 1)) + 1 := by omega
  have hl : (zs.take k).length = k := by rw [List.length_take]; omega
  unfold padI
  rw [List.set_append_right _ _ (by omega), hl, Nat.sub_self, e, List.replicate_succ, List.set_cons_zero, List.take_succ_eq_append_getElem h, List.append_assoc]
  simp [List.getD_eq_getElem?_getD, h]

/-- What eqIntS leaves: nothing has turned. -/
def BoolRet (w : World) (b : Bool) (e : Ending) (w' : World) : Prop := e = .returned (.bool b) ∧ ∃ n, w' = w.drewN n
/-- The marks that markIntS writes. -/
def marks (k : Int) : Nat → List Int
  | 0 => []
  | n + 1 => k :: marks (k + 1) n
theorem marks_length (n : Nat) : ∀ k : Int, (marks k n).length = n := by
  induction n with
  | zero => intro k; rfl
  | succ n ih => intro k; simp [marks, ih]
theorem marks_getD (n : Nat) : ∀ (k : Int) (i : Nat), i < n → (marks k n).getD i 0 = k + i := by
  induction n with
  | zero => intro k i h; omega
  | succ n ih =>
    intro k i h
    cases i with
    | zero => simp [marks]
    | succ i =>
      have := ih (k + 1) i (by omega)
      simp only [marks, List.getD_cons_succ, this]
      omega
/-- Only blocks from lo on and below hi may have turned. -/
structure Only (lo hi : Nat) (w w' : World) : Prop where
  os : w'.os = w.os
  tape : w'.tape = w.tape
  output : w'.output = w.output
  size : w'.heap.size = w.heap.size
  block : ∀ j, j < lo ∨ hi ≤ j → w'.heap[j]? = w.heap[j]?
theorem Only.refl (lo hi : Nat) (w : World) : Only lo hi w w := ⟨rfl, rfl, rfl, rfl, fun _ _ => rfl⟩
theorem Only.set {lo hi : Nat} {w w' : World} (h : Only lo hi w w') {g j : Nat} (h1 : lo ≤ g) (h2 : g < hi) (v : Value) : Only lo hi w (w'.setCell ⟨g, j, none⟩ v) :=
  ⟨h.os, h.tape, h.output, by rw [← h.size]; simp [World.setCell], fun k hk => by rw [Below.heap_setCell _ _ _ _ (show k ≠ g by omega)]; exact h.block k hk⟩
theorem Only.below {lo hi B : Nat} {w w' : World} (h : Only lo hi w w') (hB : B ≤ lo) : Below B w w' :=
  ⟨h.os, h.tape, h.output, by rw [h.size]; exact Nat.le_refl _, fun k hk => h.block k (.inl (by omega))⟩
theorem RowI.only {w w' : World} {lo hi lo' hi' : Nat} {v : Value} {zs : List Int} (h : RowI w lo hi v zs) (ho : Only lo' hi' w w') (hd : hi ≤ lo' ∨ hi' ≤ lo) : RowI w' lo hi v zs :=
  h.keep (fun k h1 h2 => ho.block k (by omega))
theorem ReadI.only {B lo hi : Nat} {w w' : World} {v : Value} {zs : List Int} (h : ReadI B w v zs) (ho : Only lo hi w w') (hB : B ≤ lo) : ReadI B w' v zs := h.below (ho.below hB)
theorem RowI.stored {w : World} {lo hi g off cap n : Nat} {ys : List Int} (h : RowI w lo hi (.slice (some ⟨g, off, none⟩) n cap) ys) (hn : n = ys.length) (i : Nat) (z : Int) :
    RowI (w.setCell ⟨g, off + i, none⟩ (.int .i64 z)) lo hi (.slice (some ⟨g, off, none⟩) n cap) (ys.set i z) := by
  obtain ⟨hl, h1 | ⟨g', off', cap', cur, hv, hlo, hhi, hcap, hh, hc⟩⟩ := h
  · simp at h1
  · simp only [Value.slice.injEq, Option.some.injEq, Addr.mk.injEq, and_true] at hv
    obtain ⟨⟨rfl, rfl⟩, _, rfl⟩ := hv
    refine ⟨by simpa using hl, .inr ⟨g, off, cap, cur.setIfInBounds (off + i) (.int .i64 z), by simp [hn], hlo, hhi, by simpa using hcap, heap_setCell_same w g (off + i) cur _ _ hh, fun j hj => ?_⟩⟩
    rw [List.length_set] at hj
    have hcj := hc j hj
    rw [Array.getElem?_setIfInBounds]
    by_cases e : i = j
    · subst e
      have : off + i < cur.size := (Array.getElem?_eq_some_iff.1 hcj).1
      rw [if_pos rfl, if_pos this, List.getD_eq_getElem?_getD, List.getElem?_set_self (by omega)]
      rfl
    · rw [if_neg (by omega), hcj, List.getD_eq_getElem?_getD, List.getD_eq_getElem?_getD, List.getElem?_set_ne e]
theorem RowI.form {w : World} {lo hi : Nat} {v : Value} {zs : List Int} (h : RowI w lo hi v zs) (h0 : 0 < zs.length) : ∃ g off cap, v = .slice (some ⟨g, off, none⟩) zs.length cap ∧ lo ≤ g ∧ g < hi := by
  obtain ⟨hl, ⟨_, rfl⟩ | ⟨g, off, cap, cur, hv, hlo, hhi, hcap, hh, hc⟩⟩ := h
  · simp at h0
  · exact ⟨g, off, cap, hv, hlo, hhi⟩
theorem RowI.facts {w : World} {lo hi g off n cap : Nat} {ys : List Int} (h : RowI w lo hi (.slice (some ⟨g, off, none⟩) n cap) ys) (i : Nat) (hi' : i < ys.length) :
    w.cell? ⟨g, off + i, none⟩ = some (.int .i64 (ys.getD i 0)) ∧ w.frozen? ⟨g, off + i, none⟩ = false := by
  obtain ⟨hl, h1 | ⟨g', off', cap', cur, hv, hlo, hhi, hcap, hh, hc⟩⟩ := h
  · simp at h1
  · simp only [Value.slice.injEq, Option.some.injEq, Addr.mk.injEq, and_true] at hv
    obtain ⟨⟨rfl, rfl⟩, _, rfl⟩ := hv
    exact ⟨by simp only [World.cell?, hh]; simpa using hc i hi', frozen_of_row w g (off + i) cur _ hh⟩
/-- The row while it is marked. -/
def part (k : Int) (zs : List Int) (i : Nat) : List Int := marks k i ++ zs.drop i
theorem part_zero (k : Int) (zs : List Int) : part k zs 0 = zs := by simp [part, marks]
theorem part_full (k : Int) (zs : List Int) : part k zs zs.length = marks k zs.length := by simp [part]
theorem part_length (k : Int) (zs : List Int) (i : Nat) (h : i ≤ zs.length) : (part k zs i).length = zs.length := by simp [part, marks_length]; omega
theorem marks_snoc (n : Nat) : ∀ k : Int, marks k (n + 1) = marks k n ++ [k + n] := by
  induction n with
  | zero => intro k; simp [marks]
  | succ n ih =>
    intro k
    have e : marks k (n + 1 + 1) = k :: marks (k + 1) (n + 1) := rfl
    have e2 : marks k (n + 1) = k :: marks (k + 1) n := rfl
    rw [e, ih (k + 1), e2, List.cons_append]
    congr 2
    simp
    omega
theorem part_step (k : Int) (zs : List Int) (i : Nat) (h : i < zs.length) : (part k zs i).set i (k + i) = part k zs (i + 1) := by
  unfold part
  rw [List.set_append_right _ _ (by rw [marks_length]; exact Nat.le_refl _), marks_length, Nat.sub_self, List.drop_eq_getElem_cons h, List.set_cons_zero, marks_snoc, List.append_assoc]
  rfl
def MarkRet (w : World) (lo hi : Nat) (v : Value) (k : Int) (n : Nat) (e : Ending) (w' : World) : Prop :=
  e = .returned (.int .i64 (k + n)) ∧ RowI w' lo hi v (marks k n) ∧ Only lo hi w w'
end Go.Proofs.YtdeofaimgldklaaDoor
