/- The laws' own helpers on slices of ints: toIntS, eqIntS, markIntS, heldIntS. -/
import Derived.Test.YtpjlamnjiilgbaaR
namespace Go.Proofs.Ytpjlamnjiilgbaa
open Go.RowKit
set_option linter.unusedVariables false

theorem infoInt : (Try.prog.info? 3).map (fun i => (i.zero, i.size, i.bytes)) = some (some (.int .i64 0), 1, 8) := by kernel_rfl
theorem made_ints (n : Nat) : (madeCells #[Value.int .i64 0] n).toList = (List.replicate n (0 : Int)).map iv := by
  rw [toList_madeCells_one]
  simp [iv]
theorem ret_bool {a b : Bool} (h : a = b) : Ending.returned (.bool a) = .returned (.bool b) := by rw [h]
theorem ret_i {a b : Int} (h : a = b) : Ending.returned (.int .i64 a) = .returned (.int .i64 b) := by rw [h]
/-- What a function that hands back one slice of ints leaves. -/
def IntsRet (w : World) (zs : List Int) (e : Ending) (w' : World) : Prop :=
  ∃ v, e = .returned v ∧ RowI w' w.heap.size w'.heap.size v zs ∧ Below w.heap.size w w'
/-- The copy, after k rounds. -/
def padI (zs : List Int) (k : Nat) : List Int := zs.take k ++ List.replicate (zs.length - k) 0
theorem padI_length (zs : List Int) (k : Nat) (h : k ≤ zs.length) : (padI zs k).length = zs.length := by simp [padI]; omega
theorem padI_zero (zs : List Int) : padI zs 0 = List.replicate zs.length 0 := by simp [padI]
theorem padI_full (zs : List Int) : padI zs zs.length = zs := by simp [padI]
theorem padI_step (zs : List Int) (k : Nat) (h : k < zs.length) : (padI zs k).set k (zs.getD k 0) = padI zs (k + 1) := by
  have e : zs.length - k = (zs.length - (k + 1)) + 1 := by omega
  have hl : (zs.take k).length = k := by rw [List.length_take]; omega
  unfold padI
  rw [List.set_append_right _ _ (by omega), hl, Nat.sub_self, e, List.replicate_succ, List.set_cons_zero, List.take_succ_eq_append_getElem h, List.append_assoc]
  simp [List.getD_eq_getElem?_getD, h]

set_option maxHeartbeats 800000 in
theorem toIntS_any (w : World) (v : Value) (zs : List Int) (h : ReadI w.heap.size w v zs) (hl : zs.length ≤ 1000000000) :
    Calls Try.prog 7 #[v] w (IntsRet w zs) := by
  obtain ⟨_, a, cap, rfl, _, hrd⟩ := h
  obtain ⟨n, hn⟩ : ∃ n, n = zs.length := ⟨_, rfl⟩
  obtain ⟨i0, hi, hz0, hz1, hz2⟩ := info_parts infoInt
  rw [← hn] at hl ⊢
  replace hn := hidI hn
  replace hrd := hidI hrd
  go_enter Try.func7, Try.ntmps7
  go_wp2_with (at_make; go_must (refine wpList_make_full _ rfl _ _ 23 rfl w.heap.size 3 i0 (.int .i64 0) 1 Try.underlying23 hi hz0 hz1 .i64 .i64 _ _ n rfl rfl rfl rfl ?c1 ?c2 ?c3 ?_))
  case c1 => rw [hz2]; omega
  case c2 => unfold maxLen; omega
  case c3 => exact Nat.le_refl _
  intro w1 hown hg
  rw [made_ints] at hown
  have hb := (Below.refl w.heap.size w).grown hg (Nat.le_refl _) (by intro k hk; cases hk)
  clear hg hi hz0 hz1 hz2
  replace hown := hidI hown
  go_wp2
  go_loopw [4] (fun i wr => ∃ k : Nat, k ≤ n ∧ i = .int .i64 k ∧ wr.ownsRow w.heap.size 3 1 (.slice (some ⟨w.heap.size, 0, none⟩) n n) n ((padI zs k).map iv) ∧ Below w.heap.size w wr) (fun i _ => n - (intOf i).toNat)
  case atStart => exact ⟨0, Nat.zero_le _, rfl, by rw [padI_zero, ← hn.out]; exact hown.out, hb⟩
  case round =>
    clear hown hb
    obtain ⟨k, hk, rfl, hown, hb⟩ := hrel
    by_cases hlt : k < n
    · obtain ⟨z, hz⟩ : ∃ z, z = zs.getD k 0 := ⟨_, rfl⟩
      have hnl := hn.out
      have hcell : ∃ b off, a = some ⟨b, off, none⟩ ∧ wr.cell? ⟨b, off + k, none⟩ = some (.int .i64 z) := by
        rcases hrd.out with h0 | ⟨b, off, ha, hB, hc⟩
        · rw [h0] at hnl; simp at hnl; omega
        · exact ⟨b, off, ha, by rw [hb.cell (p := ⟨b, off + k, none⟩) hB, hz]; exact hc k (by omega)⟩
      obtain ⟨b, off, rfl, hcell⟩ := hcell
      have hold : ∃ v, wr.cell? ⟨w.heap.size, k, none⟩ = some v := by
        rw [hown.cellAt _ (by omega)]
        exact ⟨_, List.getElem?_eq_getElem (by rw [List.length_map, padI_length _ _ (by omega)]; omega)⟩
      obtain ⟨v, hold⟩ := hold
      have hfr := hown.frozenAt k
      have hst := (hown.stored k (iv z)).1
      rw [← List.map_set, hz, padI_step zs k (by omega), ← hz] at hst
      replace hst := hidI hst
      replace hz := hidI hz
      replace hnl := hidI hnl
      replace hown := hidI hown
      go_wp2
      go_roundw
      case rel => exact ⟨k + 1, by omega, by go_num, hst.out, hb.setCell (Nat.le_refl _) _⟩
      case measure => simp [intOf]; omega
    · obtain rfl : k = n := by omega
      have hrow : RowI wr w.heap.size wr.heap.size (.slice (some ⟨w.heap.size, 0, none⟩) k k) zs := by
        refine RowI.of_owns ?_ (by have := hn.out; omega)
        rw [← hn.out]
        have := hown
        rw [hn.out, padI_full] at this
        rw [← hn.out] at this
        exact this
      replace hrow := hidI hrow
      replace hown := hidI hown
      go_wp2
      go_ret
      exact ⟨_, rfl, hrow.out, hb⟩
/-- What eqIntS leaves: nothing has turned. -/
def BoolRet (w : World) (b : Bool) (e : Ending) (w' : World) : Prop := e = .returned (.bool b) ∧ ∃ n, w' = w.drewN n
theorem eqIntS_diff (w : World) (B : Nat) (v1 v2 : Value) (z1 z2 : List Int) (h1 : ReadI B w v1 z1) (h2 : ReadI B w v2 z2) (hne : z1.length ≠ z2.length) :
    Calls Try.prog 9 #[v1, v2] w (BoolRet w false) := by
  obtain ⟨hl1, a1, cap1, rfl, _, hr1⟩ := h1
  obtain ⟨hl2, a2, cap2, rfl, _, hr2⟩ := h2
  have hc : ((z1.length : Int) != (z2.length : Int)) = true := by rw [bne_iff_ne]; omega
  clear hr1 hr2
  replace hne := hidI hne
  go_enter Try.func9, Try.ntmps9
  go_wp2
  go_ret
  exact ⟨rfl, 0, rfl⟩
set_option maxHeartbeats 800000 in
theorem eqIntS_same (w : World) (B : Nat) (v1 v2 : Value) (zs : List Int) (h1 : ReadI B w v1 zs) (h2 : ReadI B w v2 zs) :
    Calls Try.prog 9 #[v1, v2] w (BoolRet w true) := by
  obtain ⟨hl, a1, cap1, rfl, _, hr1⟩ := h1
  obtain ⟨_, a2, cap2, rfl, _, hr2⟩ := h2
  obtain ⟨n, hn⟩ : ∃ n, n = zs.length := ⟨_, rfl⟩
  rw [← hn] at hl ⊢
  have hcl : ((n : Int) != (n : Int)) = false := by simp
  replace hn := hidI hn
  replace hr1 := hidI hr1
  replace hr2 := hidI hr2
  go_enter Try.func9, Try.ntmps9
  go_wp2
  go_loopw [5] (fun i wr => ∃ k m : Nat, k ≤ n ∧ i = .int .i64 k ∧ wr = w.drewN m) (fun i _ => n - (intOf i).toNat)
  case atStart => exact ⟨0, 0, Nat.zero_le _, rfl, rfl⟩
  case round =>
    obtain ⟨k, m, hk, rfl, rfl⟩ := hrel
    by_cases hlt : k < n
    · obtain ⟨z, hz⟩ : ∃ z, z = zs.getD k 0 := ⟨_, rfl⟩
      have hnl := hn.out
      have hcell : ∀ a : Option Addr, (zs = [] ∨ ∃ b off, a = some ⟨b, off, none⟩ ∧ b < B ∧ ∀ i, i < zs.length → w.cell? ⟨b, off + i, none⟩ = some (.int .i64 (zs.getD i 0))) → ∃ b off, a = some ⟨b, off, none⟩ ∧ w.cell? ⟨b, off + k, none⟩ = some (.int .i64 z) := by
        intro a h
        rcases h with h0 | ⟨b, off, ha, hB, hc⟩
        · rw [h0] at hnl; simp at hnl; omega
        · exact ⟨b, off, ha, by rw [hz]; exact hc k (by omega)⟩
      obtain ⟨b1, off1, rfl, hc1⟩ := hcell _ hr1.out
      obtain ⟨b2, off2, rfl, hc2⟩ := hcell _ hr2.out
      have hzz : (z != z) = false := by simp
      have hlt2 : (k : Int) < (n : Int) := by omega
      clear hcell
      replace hz := hidI hz
      replace hnl := hidI hnl
      go_wp2
      go_quiet (fail)
      go_wp2
      go_roundw
      case rel => exact ⟨k + 1, _, by omega, by go_num, rfl⟩
      case measure => simp [intOf]; omega
    · go_wp2
      go_ret
      exact ⟨rfl, _, rfl⟩
/-- The marks that markIntS writes. -/
def marks (k : Int) : Nat → List Int
  | 0 => []
  | n + 1 => k :: marks (k + 1) n
theorem marks_length (n : Nat) : ∀ k : Int, (marks k n).length = n := by
  induction n with
  | zero => intro k; rfl
  | succ n ih => intro k; simp [marks, ih]
theorem marks_getD (n : Nat) : ∀ (k : Int) (i : Nat), i < n → (marks k n).getD i 0 = k + i := by
  induction n with
  | zero => intro k i h; omega
  | succ n ih =>
    intro k i h
    cases i with
    | zero => simp [marks]
    | succ i =>
      have := ih (k + 1) i (by omega)
      simp only [marks, List.getD_cons_succ, this]
      omega
/-- Only blocks from lo on and below hi may have turned. -/
structure Only (lo hi : Nat) (w w' : World) : Prop where
  os : w'.os = w.os
  tape : w'.tape = w.tape
  output : w'.output = w.output
  size : w'.heap.size = w.heap.size
  block : ∀ j, j < lo ∨ hi ≤ j → w'.heap[j]? = w.heap[j]?
theorem Only.refl (lo hi : Nat) (w : World) : Only lo hi w w := ⟨rfl, rfl, rfl, rfl, fun _ _ => rfl⟩
theorem Only.set {lo hi : Nat} {w w' : World} (h : Only lo hi w w') {g j : Nat} (h1 : lo ≤ g) (h2 : g < hi) (v : Value) : Only lo hi w (w'.setCell ⟨g, j, none⟩ v) :=
  ⟨h.os, h.tape, h.output, by rw [← h.size]; simp [World.setCell], fun k hk => by rw [Below.heap_setCell _ _ _ _ (show k ≠ g by omega)]; exact h.block k hk⟩
theorem Only.below {lo hi B : Nat} {w w' : World} (h : Only lo hi w w') (hB : B ≤ lo) : Below B w w' :=
  ⟨h.os, h.tape, h.output, by rw [h.size]; exact Nat.le_refl _, fun k hk => h.block k (.inl (by omega))⟩
theorem RowI.only {w w' : World} {lo hi lo' hi' : Nat} {v : Value} {zs : List Int} (h : RowI w lo hi v zs) (ho : Only lo' hi' w w') (hd : hi ≤ lo' ∨ hi' ≤ lo) : RowI w' lo hi v zs :=
  h.keep (fun k h1 h2 => ho.block k (by omega))
theorem ReadI.only {B lo hi : Nat} {w w' : World} {v : Value} {zs : List Int} (h : ReadI B w v zs) (ho : Only lo hi w w') (hB : B ≤ lo) : ReadI B w' v zs := h.below (ho.below hB)
theorem RowI.stored {w : World} {lo hi g off cap n : Nat} {ys : List Int} (h : RowI w lo hi (.slice (some ⟨g, off, none⟩) n cap) ys) (hn : n = ys.length) (i : Nat) (z : Int) :
    RowI (w.setCell ⟨g, off + i, none⟩ (.int .i64 z)) lo hi (.slice (some ⟨g, off, none⟩) n cap) (ys.set i z) := by
  obtain ⟨hl, h1 | ⟨g', off', cap', cur, hv, hlo, hhi, hcap, hh, hc⟩⟩ := h
  · simp at h1
  · simp only [Value.slice.injEq, Option.some.injEq, Addr.mk.injEq, and_true] at hv
    obtain ⟨⟨rfl, rfl⟩, _, rfl⟩ := hv
    refine ⟨by simpa using hl, .inr ⟨g, off, cap, cur.setIfInBounds (off + i) (.int .i64 z), by simp [hn], hlo, hhi, by simpa using hcap, heap_setCell_same w g (off + i) cur _ _ hh, fun j hj => ?_⟩⟩
    rw [List.length_set] at hj
    have hcj := hc j hj
    rw [Array.getElem?_setIfInBounds]
    by_cases e : i = j
    · subst e
      have : off + i < cur.size := (Array.getElem?_eq_some_iff.1 hcj).1
      rw [if_pos rfl, if_pos this, List.getD_eq_getElem?_getD, List.getElem?_set_self (by omega)]
      rfl
    · rw [if_neg (by omega), hcj, List.getD_eq_getElem?_getD, List.getD_eq_getElem?_getD, List.getElem?_set_ne e]
theorem RowI.form {w : World} {lo hi : Nat} {v : Value} {zs : List Int} (h : RowI w lo hi v zs) (h0 : 0 < zs.length) : ∃ g off cap, v = .slice (some ⟨g, off, none⟩) zs.length cap ∧ lo ≤ g ∧ g < hi := by
  obtain ⟨hl, ⟨_, rfl⟩ | ⟨g, off, cap, cur, hv, hlo, hhi, hcap, hh, hc⟩⟩ := h
  · simp at h0
  · exact ⟨g, off, cap, hv, hlo, hhi⟩
theorem RowI.facts {w : World} {lo hi g off n cap : Nat} {ys : List Int} (h : RowI w lo hi (.slice (some ⟨g, off, none⟩) n cap) ys) (i : Nat) (hi' : i < ys.length) :
    w.cell? ⟨g, off + i, none⟩ = some (.int .i64 (ys.getD i 0)) ∧ w.frozen? ⟨g, off + i, none⟩ = false := by
  obtain ⟨hl, h1 | ⟨g', off', cap', cur, hv, hlo, hhi, hcap, hh, hc⟩⟩ := h
  · simp at h1
  · simp only [Value.slice.injEq, Option.some.injEq, Addr.mk.injEq, and_true] at hv
    obtain ⟨⟨rfl, rfl⟩, _, rfl⟩ := hv
    exact ⟨by simp only [World.cell?, hh]; simpa using hc i hi', frozen_of_row w g (off + i) cur _ hh⟩
/-- The row while it is marked. -/
def part (k : Int) (zs : List Int) (i : Nat) : List Int := marks k i ++ zs.drop i
theorem part_zero (k : Int) (zs : List Int) : part k zs 0 = zs := by simp [part, marks]
theorem part_full (k : Int) (zs : List Int) : part k zs zs.length = marks k zs.length := by simp [part]
theorem part_length (k : Int) (zs : List Int) (i : Nat) (h : i ≤ zs.length) : (part k zs i).length = zs.length := by simp [part, marks_length]; omega
theorem marks_snoc (n : Nat) : ∀ k : Int, marks k (n + 1) = marks k n ++ [k + n] := by
  induction n with
  | zero => intro k; simp [marks]
  | succ n ih =>
    intro k
    have e : marks k (n + 1 + 1) = k :: marks (k + 1) (n + 1) := rfl
    have e2 : marks k (n + 1) = k :: marks (k + 1) n := rfl
    rw [e, ih (k + 1), e2, List.cons_append]
    congr 2
    simp
    omega
theorem part_step (k : Int) (zs : List Int) (i : Nat) (h : i < zs.length) : (part k zs i).set i (k + i) = part k zs (i + 1) := by
  unfold part
  rw [List.set_append_right _ _ (by rw [marks_length]; exact Nat.le_refl _), marks_length, Nat.sub_self, List.drop_eq_getElem_cons h, List.set_cons_zero, marks_snoc, List.append_assoc]
  rfl
def MarkRet (w : World) (lo hi : Nat) (v : Value) (k : Int) (n : Nat) (e : Ending) (w' : World) : Prop :=
  e = .returned (.int .i64 (k + n)) ∧ RowI w' lo hi v (marks k n) ∧ Only lo hi w w'
set_option maxHeartbeats 800000 in
theorem markIntS_any (w : World) (lo hi : Nat) (v : Value) (zs : List Int) (k : Int) (h : RowI w lo hi v zs) (hk : 0 ≤ k) (hk2 : k ≤ 1000000000000) (hl : zs.length ≤ 1000000000) :
    Calls Try.prog 12 #[v, .int .i64 k] w (MarkRet w lo hi v k zs.length) := by
  by_cases h0 : 0 < zs.length
  · obtain ⟨g, off, cap, rfl, hlo, hhi⟩ := h.form h0
    obtain ⟨n, hn⟩ : ∃ n, n = zs.length := ⟨_, rfl⟩
    rw [← hn] at h0 hl h ⊢
    replace hn := hidI hn
    replace h := hidI h
    go_enter Try.func12, Try.ntmps12
    go_wp2
    go_loopw [1, 5] (fun kk i wr => ∃ j : Nat, j ≤ n ∧ i = .int .i64 j ∧ kk = .int .i64 (k + (j : Int)) ∧ RowI wr lo hi (.slice (some ⟨g, off, none⟩) n cap) (part k zs j) ∧ Only lo hi w wr) (fun _ i _ => n - (intOf i).toNat)
    case atStart => exact ⟨0, Nat.zero_le _, rfl, by simp, by rw [part_zero]; exact h.out, Only.refl _ _ _⟩
    case round =>
      obtain ⟨j, hj, rfl, rfl, hrow, hon⟩ := hrel
      by_cases hlt : j < n
      · have hpl : (part k zs j).length = n := by rw [part_length _ _ _ (by have := hn.out; omega)]; exact hn.out.symm
        obtain ⟨hcell, hfr⟩ := hrow.facts j (by omega)
        obtain ⟨z, hz⟩ : ∃ z, z = (part k zs j).getD j 0 := ⟨_, rfl⟩
        rw [← hz] at hcell
        have hst := hrow.stored hpl.symm j (k + (j : Int))
        rw [part_step k zs j (by have := hn.out; omega)] at hst
        have hon2 := hon.set (j := off + j) hlo hhi (.int .i64 (k + (j : Int)))
        have hsum : k + (j : Int) + 1 = k + ((j + 1 : Nat) : Int) := by omega
        clear hon
        replace hsum := hidI hsum
        replace hpl := hidI hpl
        replace hz := hidI hz
        replace hst := hidI hst
        replace hon2 := hidI hon2
        replace hrow := hidI hrow
        go_wp2
        go_roundw
        case rel => exact ⟨j + 1, by omega, by go_num, by rw [hsum.out], hst.out, hon2.out⟩
        case measure => simp [intOf]; omega
      · obtain rfl : j = n := by omega
        have hrow2 : RowI wr lo hi (.slice (some ⟨g, off, none⟩) j cap) (marks k j) := by
          have := hrow
          rw [hn.out, part_full] at this
          rw [← hn.out] at this
          exact this
        replace hrow := hidI hrow
        replace hrow2 := hidI hrow2
        go_wp2
        go_ret
        exact ⟨rfl, hrow2.out, hon⟩
  · have hz : zs = [] := List.length_eq_zero_iff.1 (by omega)
    subst hz
    obtain ⟨_, a, cap, rfl, _, _⟩ := h.read
    replace h := hidI h
    go_enter Try.func12, Try.ntmps12
    go_wp2
    go_loop [1, 5] (fun kk i => kk = .int .i64 k ∧ i = .int .i64 0) (fun _ _ => 0)
    case atStart => exact ⟨rfl, rfl⟩
    case round =>
      obtain ⟨rfl, rfl⟩ := hrel
      go_wp2
      go_ret
      exact ⟨ret_i (by simp), h.out, Only.refl _ _ _⟩
set_option maxHeartbeats 800000 in
theorem heldIntS_any (w : World) (B : Nat) (v : Value) (n : Nat) (k : Int) (h : ReadI B w v (marks k n)) (hk : 0 ≤ k) (hk2 : k ≤ 1000000000000) (hl : n ≤ 1000000000) :
    Calls Try.prog 13 #[v, .int .i64 k] w fun e w' => e = .returned (.int .i64 (k + n)) ∧ w = w' := by
  obtain ⟨_, a, cap, rfl, _, hr⟩ := h
  rw [marks_length]
  rw [marks_length] at hr
  replace hr := hidI hr
  go_enter Try.func13, Try.ntmps13
  go_wp2
  go_loop [1, 5] (fun kk i => ∃ j : Nat, j ≤ n ∧ i = .int .i64 j ∧ kk = .int .i64 (k + (j : Int))) (fun _ i => n - (intOf i).toNat)
  case atStart => exact ⟨0, Nat.zero_le _, rfl, by simp⟩
  case round =>
    obtain ⟨j, hj, rfl, rfl⟩ := hrel
    by_cases hlt : j < n
    · have hcell : ∃ b off, a = some ⟨b, off, none⟩ ∧ w.cell? ⟨b, off + j, none⟩ = some (.int .i64 (k + (j : Int))) := by
        rcases hr.out with h0 | ⟨b, off, ha, hB, hc⟩
        · have := congrArg List.length h0
          rw [marks_length] at this
          simp at this
          omega
        · exact ⟨b, off, ha, by rw [hc j hlt, marks_getD n k j hlt]⟩
      obtain ⟨b, off, rfl, hcell⟩ := hcell
      have hsum : k + (j : Int) + 1 = k + ((j + 1 : Nat) : Int) := by omega
      have hne : ((k + (j : Int)) != (k + (j : Int))) = false := by simp
      replace hsum := hidI hsum
      go_wp2
      go_round
      case rel => exact ⟨j + 1, by omega, by go_num, by rw [hsum.out]⟩
      case measure => simp [intOf]; omega
    · obtain rfl : j = n := by omega
      go_wp2
      go_ret
      exact ⟨rfl, rfl⟩
end Go.Proofs.Ytpjlamnjiilgbaa
