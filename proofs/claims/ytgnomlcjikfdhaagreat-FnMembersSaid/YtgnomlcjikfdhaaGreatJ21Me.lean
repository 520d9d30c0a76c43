import Derived.Laws.MakeOwn
import Derived.Laws.AppendOwn
import Derived.Deep.LoopGhost
import Derived.Test.YtgnomlcjikfdhaaGreatJ1Me
namespace Go.Proofs.YtgnomlcjikfdhaaGreat
open Go.RowKit Go.Maps
set_option linter.unusedVariables false
set_option linter.unusedSimpArgs false
def bH : Nat → List Int
 | 0 => []
 | k + 1 => bH k ++ [((k : Int) + 1), -((k : Int) + 1)]
theorem iU : ∀ k, (bH k).length = 2 * k := by
 intro k
 induction k with
 | zero => rfl
 | succ k ih => rw [bH, List.length_append, ih]; simp; omega
theorem oL : ∀ k, ∀ l ∈ bH k, -(k : Int) ≤ l ∧ l ≤ (k : Int) := by
 intro k
 induction k with
 | zero => intro l h; cases h
 | succ k ih =>
  intro l h; rw [bH, List.mem_append] at h
  rcases h with h | h
  · have := ih l h; omega
  · simp at h; omega
theorem zU {w0 : World} {ops : Array Oper} {rest : List Oper} {o : Oper} {a : Act} {Q : Exit → Act → World → Prop} (hgd : o.guard = none) (s x : Operand)
 (ho : o.op = .call { callee := .builtin .append, args := #[s, x], argTypes := #[33, 33] }) (base : Nat) (v : Value) (zs : List Int) (y z : Int)
 (hs : a.eval s = v) (hx : a.eval x = .slice (some ⟨w0.heap.size, 0, none⟩) 2 2) (hown : ak w0 base v zs) (hl : zs.length ≤ 1000000000) (hbase : base ≤ w0.heap.size)
 (h : ∀ v' w', ak w' base v' (zs ++ [y, z]) → Below base w0 w' → wpList Tryz.prog ops Q rest (a.put o.dst v') w') :
 wpList Tryz.prog ops Q (o :: rest) a (w0.alloc (.cells #[.int .i64 y, .int .i64 z] 3)) := by
 obtain ⟨i0, hi, hz0, hz1, hz2⟩ := info_parts jK; refine wpList_append_own _ hgd s x 33 ho base 3 i0 (.int .i64 0) 1 8 Tryz.underlying33 hi hz0 hz1 hz2 rfl (by decide) v zs.length (zs.map iv) hs (World.ownsRow.alloc hown _) ⟨w0.heap.size, 0, none⟩ 2 2 [iv y, iv z] hx rfl ?_ ?_ ?_ ?_ ?_ ?_
 · intro j u hj
   have hk := heap_alloc_new w0 (.cells #[.int .i64 y, .int .i64 z] 3); rw [iy, Nat.zero_add]; have c := cell_of_heap hk j
   match j, hj with
   | 0, hj => simp at hj; subst hj; simp [iv]
   | 1, hj => simp at hj; subst hj; simp [iv]
 · intro u hu
   simp at hu
   rcases hu with rfl | rfl <;> rfl
 · unfold maxLen; omega
 · omega
 · simp; omega
 · intro v' w' ho' hg _
   refine h v' w' (by unfold ak; simpa using ho') ?_
   exact ((Below.refl base w0).alloc hbase _).grown hg (by simp; omega) (fun k hk => (World.ownsRow.lt hown k hk).1)
set_option maxHeartbeats 1600000 in
theorem IY (w : World) (rN : Nat) (hr : rN ≤ 3) : Calls Tryz.prog 119 #[.int .i64 (rN : Int)] w (bW w (bH rN)) := by
 obtain ⟨i0, hi, hz0, hz1, hz2⟩ := info_parts jK; have h2r : IntKind.i64.wrap (2 * (rN : Int)) = 2 * (rN : Int) := IntWalk.i64_in _ (by omega)
 go_enter Tryz.func119, Tryz.ntmps119
 go_wp2_with (at_make; go_must (refine wpList_make_own _ rfl _ _ 33 rfl w.heap.size 3 i0 (.int .i64 0) 1 Tryz.underlying33 hi hz0 hz1 .i64 .i64 _ (2 * rN) rfl rfl (by omega) ?c3 ?c4 ?c5 ?_))
 case c3 => rw [hz2]; omega
 case c4 => unfold maxLen; omega
 case c5 => exact nl _
 intro w1 hown hg; have hown0 : Hid (ak w1 w.heap.size (.slice (some ⟨w.heap.size, 0, none⟩) 0 (2 * rN)) (bH 0)) := ae hown; have hb0 := ae ((Below.refl w.heap.size w).grown hg (nl _) (fun k hk => by cases hk))
 clear hown hg; go_wp2
 go_loopg [3, 4, 9] rN (fun g o u i wr => ∃ k : Nat, k + g = rN ∧ i = .int .i64 k ∧ Hid (ak wr w.heap.size o (bH k)) ∧ Hid (Below w.heap.size w wr))
 case atStart => exact ⟨0, by omega, rfl, hown0, hb0⟩
 case round =>
  clear hown0 hb0; obtain ⟨k, hk, rfl, hown, hb⟩ := hrel; obtain ⟨a3, m3, c3, rfl⟩ : ∃ a m c, u3 = Value.slice a m c := by
   obtain ⟨_, ⟨h1, _⟩ | ⟨g, cap, cur, h1, _⟩⟩ := hown.out <;> exact ⟨_, _, _, h1⟩
  by_cases hlt : k < rN
  · have hki : (k : Int) < (rN : Int) := by omega
    have hlen := iU k; have hnx : bH (k + 1) = bH k ++ [((k : Int) + 1), -((k : Int) + 1)] := rfl; have hneg : IntKind.i64.wrap (-((k : Int) + 1)) = -((k : Int) + 1) := IntWalk.i64_in _ (by omega)
    replace hnx := ae hnx; replace hk := ae hk; replace hlen := ae hlen; go_wp2_with (at_builtin; go_must (refine zU rfl _ _ rfl w.heap.size _ (bH k) _ _ rfl rfl (by exact hown.out) (by have := hlen.out; omega) hb.out.size ?_))
    intro v' w' hown' hb'; have hown2 := ae (show ak w' w.heap.size v' (bH (k + 1)) by rw [hnx.out]; exact hown')
    replace hb' := ae (hb.out.trans hb'); clear hown hb hown'; go_wp2; go_roundg (rN - (k + 1))
    case rel => exact ⟨k + 1, by have := hk.out; omega, by go_num, hown2, hb'⟩
    case measure => have := hk.out; omega
  · obtain rfl : k = rN := by omega
    have hki : ¬ (k : Int) < (k : Int) := by omega
    have hr : bW w (bH k) (.returned (.slice a3 m3 c3)) wr := ⟨_, rfl, hown.out.row (by rw [iU]; omega), hb.out⟩
    replace hr := ae hr; replace hk := ae hk; go_wp2; go_ret; exact hr.out
set_option maxHeartbeats 1600000 in
theorem Ap (w : World) (rN : Nat) (hr : rN ≤ 3) : Calls Tryz.prog 70 #[.int .i64 (rN : Int)] w (bW w (bH rN)) := by
 obtain ⟨w1, hw1⟩ := ag (w.alloc (.cells #[] 3)); have hown0 : Hid (ak w1 w.heap.size (.slice (some ⟨w.heap.size, 0, none⟩) 0 0) (bH 0)) := by rw [hw1]; exact ae (ak.lit w)
 have hb0 := ae (show Below w.heap.size w w1 by rw [hw1]; exact (Below.refl _ _).alloc (nl _) _)
 replace hw1 := ae hw1; go_enter Tryz.func70, Tryz.ntmps70
 go_wp2; rw [← hw1.out]
 go_loopg [3, 4] rN (fun g o i wr => ∃ k : Nat, k + g = rN ∧ i = .int .i64 ((k : Int) + 1) ∧ Hid (ak wr w.heap.size o (bH k)) ∧ Hid (Below w.heap.size w wr))
 case atStart => exact ⟨0, by omega, rfl, hown0, hb0⟩
 case round =>
  clear hown0 hb0; obtain ⟨k, hk, rfl, hown, hb⟩ := hrel; obtain ⟨a3, m3, c3, rfl⟩ : ∃ a m c, u3 = Value.slice a m c := by
   obtain ⟨_, ⟨h1, _⟩ | ⟨g, cap, cur, h1, _⟩⟩ := hown.out <;> exact ⟨_, _, _, h1⟩
  by_cases hlt : k < rN
  · have hki : (k : Int) + 1 ≤ (rN : Int) := by omega
    have hlen := iU k; have hnx : bH (k + 1) = bH k ++ [((k : Int) + 1), -((k : Int) + 1)] := rfl; have hneg : IntKind.i64.wrap (-((k : Int) + 1)) = -((k : Int) + 1) := IntWalk.i64_in _ (by omega)
    replace hnx := ae hnx; replace hk := ae hk; replace hlen := ae hlen; go_wp2_with (at_builtin; go_must (refine bM rfl _ _ rfl w.heap.size _ (bH k) _ rfl rfl (by exact hown.out) (by have := hlen.out; omega) hb.out.size ?_))
    intro v' w' hown' hb'; obtain ⟨a4, m4, c4, rfl⟩ : ∃ a m c, v' = Value.slice a m c := by
     obtain ⟨_, ⟨h1, _⟩ | ⟨g, cap, cur, h1, _⟩⟩ := hown' <;> exact ⟨_, _, _, h1⟩
    replace hown' := ae hown'; replace hb' := ae (hb.out.trans hb'); clear hown hb; go_wp2_with (at_builtin; go_must (refine bM rfl _ _ rfl w.heap.size _ (bH k ++ [((k : Int) + 1)]) _ rfl rfl (by exact hown'.out) (by have := hlen.out; rw [List.length_append]; simp; omega) hb'.out.size ?_))
    intro v2 w2 hown2 hb2; have hown3 := ae (show ak w2 w.heap.size v2 (bH (k + 1)) by rw [hnx.out]; simpa using hown2)
    replace hb2 := ae (hb'.out.trans hb2); clear hown' hb' hown2; go_wp2; go_roundg (rN - (k + 1))
    case rel => exact ⟨k + 1, by have := hk.out; omega, by go_num, hown3, hb2⟩
    case measure => have := hk.out; omega
  · obtain rfl : k = rN := by omega
    have hki : ¬ (k : Int) + 1 ≤ (k : Int) := by omega
    have hr : bW w (bH k) (.returned (.slice a3 m3 c3)) wr := ⟨_, rfl, hown.out.row (by rw [iU]; omega), hb.out⟩
    replace hr := ae hr; replace hk := ae hk; go_wp2; go_ret; exact hr.out
end Go.Proofs.YtgnomlcjikfdhaaGreat
