/- The search by breadth, the model: l5Letters, the rows that l5Search keeps. -/
import Derived.Test.YtiacnjbgobppaaaFB
import Derived.Test.YtiacnjbgobppaaaFS4
import Derived.Test.YtiacnjbgobppaaaFP6
import Derived.Maps.AppendAt
namespace Go.Proofs.Ytiacnjbgobppaaa
open Go.RowKit
set_option linter.unusedVariables false
set_option linter.unusedSimpArgs false

set_option maxHeartbeats 1600000 in
theorem specLets (w : World) (rN : Nat) (hr : rN ≤ 3) : Calls Try.prog 53 #[.int .i64 (rN : Int)] w (IntsRet w (letsN rN)) := by
  obtain ⟨w1, hw1⟩ : ∃ z, z = w.alloc (.cells #[] 3) := ⟨_, rfl⟩
  have hown0 : Hid (OwnsI w1 w.heap.size (.slice (some ⟨w.heap.size, 0, none⟩) 0 0) (letsN 0)) := by rw [hw1]; exact hidI (OwnsI.lit w)
  have hb0 := hidI (show Below w.heap.size w w1 by rw [hw1]; exact (Below.refl _ _).alloc (Nat.le_refl _) _)
  replace hw1 := hidI hw1
  go_enter Try.func53, Try.ntmps53
  go_wp2
  rw [← hw1.out]
  go_loopg [3, 4] rN (fun g o i wr => ∃ k : Nat, k + g = rN ∧ i = .int .i64 ((k : Int) + 1) ∧ Hid (OwnsI wr w.heap.size o (letsN k)) ∧ Hid (Below w.heap.size w wr))
  case atStart => exact ⟨0, by omega, rfl, hown0, hb0⟩
  case round =>
    clear hown0 hb0
    obtain ⟨k, hk, rfl, hown, hb⟩ := hrel
    obtain ⟨a3, m3, c3, rfl⟩ : ∃ a m c, u3 = Value.slice a m c := by
      obtain ⟨_, ⟨h1, _⟩ | ⟨g, cap, cur, h1, _⟩⟩ := hown.out <;> exact ⟨_, _, _, h1⟩
    by_cases hlt : k < rN
    · have hki : (k : Int) + 1 ≤ (rN : Int) := by omega
      have hlen := letsN_length k
      have hnx : letsN (k + 1) = letsN k ++ [((k : Int) + 1), -((k : Int) + 1)] := rfl
      have hneg : IntKind.i64.wrap (-((k : Int) + 1)) = -((k : Int) + 1) := IntWalk.i64_in _ (by omega)
      replace hnx := hidI hnx
      replace hk := hidI hk
      replace hlen := hidI hlen
      go_wp2_with (at_builtin; go_must (refine wpList_pushI rfl _ _ rfl w.heap.size _ (letsN k) _ rfl rfl (by exact hown.out) (by have := hlen.out; omega) hb.out.size ?_))
      intro v' w' hown' hb'
      obtain ⟨a4, m4, c4, rfl⟩ : ∃ a m c, v' = Value.slice a m c := by
        obtain ⟨_, ⟨h1, _⟩ | ⟨g, cap, cur, h1, _⟩⟩ := hown' <;> exact ⟨_, _, _, h1⟩
      replace hown' := hidI hown'
      replace hb' := hidI (hb.out.trans hb')
      clear hown hb
      go_wp2_with (at_builtin; go_must (refine wpList_pushI rfl _ _ rfl w.heap.size _ (letsN k ++ [((k : Int) + 1)]) _ rfl rfl (by exact hown'.out) (by have := hlen.out; rw [List.length_append]; simp; omega) hb'.out.size ?_))
      intro v2 w2 hown2 hb2
      have hown3 := hidI (show OwnsI w2 w.heap.size v2 (letsN (k + 1)) by rw [hnx.out]; simpa using hown2)
      replace hb2 := hidI (hb'.out.trans hb2)
      clear hown' hb' hown2
      go_wp2
      go_roundg (rN - (k + 1))
      case rel => exact ⟨k + 1, by have := hk.out; omega, by go_num, hown3, hb2⟩
      case measure => have := hk.out; omega
    · obtain rfl : k = rN := by omega
      have hki : ¬ (k : Int) + 1 ≤ (k : Int) := by omega
      have hr : IntsRet w (letsN k) (.returned (.slice a3 m3 c3)) wr := ⟨_, rfl, hown.out.row (by rw [letsN_length]; omega), hb.out⟩
      replace hr := hidI hr
      replace hk := hidI hk
      go_wp2
      go_ret
      exact hr.out
/-- append(s, x...) of ints, within a region, and where the new row lies. -/
theorem step_pushAllI_at {w0 : World} {o : Oper} {a : Act} {K : Act → World → Prop} {Q : Exit → Act → World → Prop} (s x : Operand)
    (ho : o.op = .call { callee := .builtin .append, args := #[s, x], argTypes := #[33, 33] }) (base : Nat) (v vx : Value) (zs ys : List Int) (B : Nat)
    (hs : a.eval s = v) (hx : a.eval x = vx) (hown : OwnsI w0 base v zs) (hread : ReadI B w0 vx ys) (hl : zs.length + ys.length ≤ 1000000000) (hbase : base ≤ w0.heap.size)
    (h : ∀ v' w', OwnsI w' base v' (zs ++ ys) → w0.grownBy w' v.ownBlock → (v'.ownBlock = v.ownBlock ∨ v'.ownBlock = some w0.heap.size) → K (a.put o.dst v') w') :
    Oper.wp Try.prog o a w0 K Q := by
  obtain ⟨i0, hi, hz0, hz1, hz2⟩ := info_parts infoInt
  obtain ⟨_, ax, cap, rfl, ⟨hnil, _⟩, hr⟩ := hread
  rcases ax with _ | ad
  · have hy : ys = [] := by
      rcases hr with h0 | ⟨b, off, ha, _⟩
      · exact h0
      · cases ha
    subst hy
    rw [hnil rfl] at hx
    have hrun := run_append_owned_none (P := Try.prog) (w := w0) base 33 o.type 3 i0 1 Try.underlying33 hi v zs.length (zs.map iv) hown
    unfold Oper.wp
    simp [execOp, ho, resolve, invoke, builtin, hs, hx, hrun, Result.andThen]
    exact h v w0 (by rw [List.append_nil]; exact hown) ⟨rfl, rfl, rfl, Nat.le_refl _, fun _ _ _ => rfl⟩ (.inl rfl)
  · obtain ⟨v', w', hrun, h2, h3, h4, h5⟩ := run_append_own_at (P := Try.prog) w0 base 33 o.type 3 i0 (.int .i64 0) 1 8 Try.underlying33 hi hz0 hz1 hz2 rfl (by decide) v zs.length (zs.map iv) hown ad ys.length cap (ys.map iv) (by simp) (by
      intro j u hj
      rw [List.getElem?_map] at hj
      obtain ⟨y, hy, rfl⟩ := Option.map_eq_some_iff.1 hj
      have hjl : j < ys.length := (List.getElem?_eq_some_iff.1 hy).1
      rcases hr with h0 | ⟨b, off, ha, hB, hc⟩
      · rw [h0] at hjl; simp at hjl
      · cases ha
        have hcj := hc j hjl
        rw [List.getD_eq_getElem?_getD, hy] at hcj
        rw [addr_plus]
        simpa [iv] using hcj) (by
      intro u hu
      obtain ⟨y, _, rfl⟩ := List.mem_map.1 hu
      rfl) (by unfold maxLen; omega) (by omega) hbase
    unfold Oper.wp execOp
    simp only [ho, resolve, invoke, builtin, Sem.run_bind, Sem.run_pure, Result.andThen_ok, List.map_toArray, List.map_cons, List.map_nil, hs, hx, hrun]
    exact h v' w' (by unfold OwnsI; simpa using h2) h3 h5
/-- Block G is a row of N bools that marks the members of L. -/
def BoolsN (w : World) (G N : Nat) (L : List Int) : Prop :=
  ∃ cur : Array Value, w.heap[G]? = some (.cells cur 4 (0, 0)) ∧ cur.size = N ∧ ∀ u : Nat, u < N → cur[u]? = some (.bool (decide ((u : Int) ∈ L)))
theorem BoolsN.cell {w : World} {G N : Nat} {L : List Int} (h : BoolsN w G N L) (u : Nat) (hu : u < N) : w.cell? ⟨G, u, none⟩ = some (.bool (decide ((u : Int) ∈ L))) := by
  obtain ⟨cur, hh, hs, hc⟩ := h
  have := cell_of_heap hh u
  rw [this]; exact hc u hu
theorem BoolsN.frozen {w : World} {G N : Nat} {L : List Int} (h : BoolsN w G N L) (u : Nat) : w.frozen? ⟨G, u, none⟩ = false := by
  obtain ⟨cur, hh, hs, hc⟩ := h
  exact frozen_of_row w G u cur _ hh
theorem BoolsN.lt {w : World} {G N : Nat} {L : List Int} (h : BoolsN w G N L) : G < w.heap.size := by
  obtain ⟨cur, hh, hs, hc⟩ := h
  exact (Array.getElem?_eq_some_iff.1 hh).1
theorem BoolsN.keep {w w' : World} {G N : Nat} {L : List Int} (h : BoolsN w G N L) (hb : w'.heap[G]? = w.heap[G]?) : BoolsN w' G N L := by
  obtain ⟨cur, hh, hs, hc⟩ := h
  exact ⟨cur, by rw [hb]; exact hh, hs, hc⟩
theorem BoolsN.set {w : World} {G N : Nat} {L L' : List Int} (h : BoolsN w G N L) (x : Nat) (hx : x < N) (hL : ∀ u : Nat, u < N → ((u : Int) ∈ L' ↔ (u : Int) ∈ L ∨ u = x)) : BoolsN (w.setCell ⟨G, x, none⟩ (.bool true)) G N L' := by
  obtain ⟨cur, hh, hs, hc⟩ := h
  refine ⟨cur.setIfInBounds x (.bool true), heap_setCell_same w G x cur _ _ hh, by simpa using hs, fun u hu => ?_⟩
  by_cases hux : u = x
  · subst hux
    rw [Array.getElem?_setIfInBounds_self_of_lt (by omega)]
    rw [decide_eq_true ((hL u hu).2 (.inr rfl))]
  · rw [Array.getElem?_setIfInBounds_ne (by omega), hc u hu]
    have := hL u hu
    by_cases hm : (u : Int) ∈ L
    · rw [decide_eq_true hm, decide_eq_true (this.2 (.inl hm))]
    · rw [decide_eq_false hm, decide_eq_false (fun h => by rcases this.1 h with h | h <;> contradiction)]
/-- Block H is a row of N slices: at each found vertex lies its word, in a block that is none of G, H and the queue's. -/
def WordsAt (w : World) (G H N : Nat) (qb : Option Nat) (S : List Ar) : Prop :=
  ∃ cur : Array Value, w.heap[H]? = some (.cells cur 33 (0, 0)) ∧ cur.size = N ∧ ∀ j, j < S.length → ∃ v, cur[(S.getD j d0).1.1.toNat]? = some v ∧ ReadI w.heap.size w v (S.getD j d0).2 ∧ ∀ b, v.ownBlock = some b → b < w.heap.size ∧ b ≠ G ∧ b ≠ H ∧ qb ≠ some b
theorem ReadI.other {w w' : World} {v : Value} {zs : List Int} (h : ReadI w.heap.size w v zs) (hsz : w.heap.size ≤ w'.heap.size) (hb : ∀ b, v.ownBlock = some b → w'.heap[b]? = w.heap[b]?) : ReadI w'.heap.size w' v zs := by
  obtain ⟨hl, a, cap, rfl, hnil, hc⟩ := h
  refine ⟨hl, a, cap, rfl, hnil, hc.imp id ?_⟩
  rintro ⟨b, off, rfl, hB, hcell⟩
  exact ⟨b, off, rfl, by omega, fun i hi => by rw [World.cell?_of_block (w := w) (a := ⟨b, off + i, none⟩) (hb b rfl)]; exact hcell i hi⟩
theorem WordsAt.keep {w w' : World} {G H N : Nat} {qb qb' : Option Nat} {S : List Ar} (h : WordsAt w G H N qb S) (hsz : w.heap.size ≤ w'.heap.size) (hH : w'.heap[H]? = w.heap[H]?)
    (hb : ∀ b, b < w.heap.size → b ≠ G → b ≠ H → qb ≠ some b → w'.heap[b]? = w.heap[b]? ∧ qb' ≠ some b) : WordsAt w' G H N qb' S := by
  obtain ⟨cur, hh, hs, hc⟩ := h
  refine ⟨cur, by rw [hH]; exact hh, hs, fun j hj => ?_⟩
  obtain ⟨v, h1, h2, h3⟩ := hc j hj
  refine ⟨v, h1, h2.other hsz (fun b hbb => ?_), fun b hbb => ?_⟩
  · obtain ⟨q1, q2, q3, q4⟩ := h3 b hbb
    exact (hb b q1 q2 q3 q4).1
  · obtain ⟨q1, q2, q3, q4⟩ := h3 b hbb
    exact ⟨by omega, q2, q3, (hb b q1 q2 q3 q4).2⟩
theorem WordsAt.put {w : World} {G H N : Nat} {qb : Option Nat} {S : List Ar} (h : WordsAt w G H N qb S) {y l i : Int} {wd : List Int} {v : Value} (hy : 0 ≤ y) (hyN : y.toNat < N) (hvert : ∀ j, j < S.length → 0 ≤ (S.getD j d0).1.1)
    (hn : y ∉ vts S) (hr : ReadI w.heap.size w v wd) (hv : ∀ b, v.ownBlock = some b → b < w.heap.size ∧ b ≠ G ∧ b ≠ H ∧ qb ≠ some b) :
    WordsAt (w.setCell ⟨H, y.toNat, none⟩ v) G H N qb (S ++ [((y, l, i), wd)]) := by
  obtain ⟨cur, hh, hs, hc⟩ := h
  have hsz : (w.setCell ⟨H, y.toNat, none⟩ v).heap.size = w.heap.size := setCell_size _ _ _
  refine ⟨cur.setIfInBounds y.toNat v, heap_setCell_same w H y.toNat cur _ _ hh, by simpa using hs, fun j hj => ?_⟩
  have hoth : ∀ b, b ≠ H → (w.setCell ⟨H, y.toNat, none⟩ v).heap[b]? = w.heap[b]? := fun b hb => heap_setCell_other _ _ _ _ hb
  have hcase : j < S.length ∨ j = S.length := by simp at hj; omega
  rcases hcase with hj | rfl
  · rw [getD_left hj]
    obtain ⟨u, h1, h2, h3⟩ := hc j hj
    have hne : (S.getD j d0).1.1 ≠ y := fun he => hn (mem_vts.2 ⟨j, hj, he⟩)
    have h0 := hvert j hj
    refine ⟨u, by rw [Array.getElem?_setIfInBounds_ne (by omega)]; exact h1, h2.other (by omega) (fun b hb => hoth b (h3 b hb).2.2.1), fun b hb => by rw [hsz]; exact h3 b hb⟩
  · rw [getD_last]
    refine ⟨v, by rw [Array.getElem?_setIfInBounds_self_of_lt (by omega)], hr.other (by omega) (fun b hb => hoth b (hv b hb).2.2.1), fun b hb => by rw [hsz]; exact hv b hb⟩
theorem WordsAt.cell {w : World} {G H N : Nat} {qb : Option Nat} {S : List Ar} (h : WordsAt w G H N qb S) (j : Nat) (hj : j < S.length) : ∃ v, w.cell? ⟨H, (S.getD j d0).1.1.toNat, none⟩ = some v ∧ ReadI w.heap.size w v (S.getD j d0).2 := by
  obtain ⟨cur, hh, hs, hc⟩ := h
  obtain ⟨v, h1, h2, _⟩ := hc j hj
  exact ⟨v, by rw [cell_of_heap hh]; exact h1, h2⟩
theorem WordsAt.frozen {w : World} {G H N : Nat} {qb : Option Nat} {S : List Ar} (h : WordsAt w G H N qb S) (u : Nat) : w.frozen? ⟨H, u, none⟩ = false := by
  obtain ⟨cur, hh, hs, hc⟩ := h
  exact frozen_of_row w H u cur _ hh
theorem WordsAt.some {w : World} {G H N : Nat} {qb : Option Nat} {S : List Ar} (h : WordsAt w G H N qb S) (u : Nat) (hu : u < N) : ∃ v, w.cell? ⟨H, u, none⟩ = some v := by
  obtain ⟨cur, hh, hs, hc⟩ := h
  exact ⟨_, by rw [cell_of_heap hh]; exact Array.getElem?_eq_getElem (by omega)⟩
/-- What l5Search keeps. -/
structure SearchSt (w : World) (base G H N : Nat) (oq : Value) (S : List Ar) : Prop where
  seen : BoolsN w G N (vts S)
  words : WordsAt w G H N oq.ownBlock S
  queue : OwnsI w base oq (vts S)
  qG : oq.ownBlock ≠ some G
  qH : oq.ownBlock ≠ some H
  GH : G ≠ H
  Hlt : H < w.heap.size
end Go.Proofs.Ytiacnjbgobppaaa
