import Derived.Laws.MakeOwn
import Derived.Laws.AppendOwn
import Derived.Deep.LoopGhost
import Derived.Deep.Cut
import Derived.Deep.RegionHeld3
import Derived.Laws.AppendOwnNone
import Derived.Maps.AppendAt
import Derived.Test.YtgnomlcjikfdhaaGreatJ3Tr
import Derived.Test.YtgnomlcjikfdhaaGreatJ5Tr
import Derived.Test.YtgnomlcjikfdhaaGreatJ6Tr
import Derived.Test.YtgnomlcjikfdhaaGreatJ4Tr
import Derived.Test.YtgnomlcjikfdhaaGreatJ10Tr
import Derived.Test.YtgnomlcjikfdhaaGreatJ18Tr
namespace Go.Proofs.YtgnomlcjikfdhaaGreat
open Go.RowKit Go.Maps
set_option linter.unusedVariables false
set_option linter.unusedSimpArgs false
def letsN : Nat → List Int
 | 0 => []
 | k + 1 => letsN k ++ [((k : Int) + 1), -((k : Int) + 1)]
theorem letsN_length : ∀ k, (letsN k).length = 2 * k := by
 intro k
 induction k with
 | zero => rfl
 | succ k ih => rw [letsN, List.length_append, ih]; simp; omega
theorem letsN_in : ∀ k, ∀ l ∈ letsN k, -(k : Int) ≤ l ∧ l ≤ (k : Int) := by
 intro k
 induction k with
 | zero => intro l h; cases h
 | succ k ih =>
  intro l h
  rw [letsN, List.mem_append] at h
  rcases h with h | h
  · have := ih l h; omega
  · simp at h; omega
theorem wpList_push2I {w0 : World} {ops : Array Oper} {rest : List Oper} {o : Oper} {a : Act} {Q : Exit → Act → World → Prop} (hgd : o.guard = none) (s x : Operand)
 (ho : o.op = .call { callee := .builtin .append, args := #[s, x], argTypes := #[33, 33] }) (base : Nat) (v : Value) (zs : List Int) (y z : Int)
 (hs : a.eval s = v) (hx : a.eval x = .slice (some ⟨w0.heap.size, 0, none⟩) 2 2) (hown : OwnsI w0 base v zs) (hl : zs.length ≤ 1000000000) (hbase : base ≤ w0.heap.size)
 (h : ∀ v' w', OwnsI w' base v' (zs ++ [y, z]) → Below base w0 w' → wpList Tryz.prog ops Q rest (a.put o.dst v') w') :
 wpList Tryz.prog ops Q (o :: rest) a (w0.alloc (.cells #[.int .i64 y, .int .i64 z] 3)) := by
 obtain ⟨i0, hi, hz0, hz1, hz2⟩ := info_parts infoInt
 refine wpList_append_own _ hgd s x 33 ho base 3 i0 (.int .i64 0) 1 8 Tryz.underlying33 hi hz0 hz1 hz2 rfl (by decide) v zs.length (zs.map iv) hs (World.ownsRow.alloc hown _) ⟨w0.heap.size, 0, none⟩ 2 2 [iv y, iv z] hx rfl ?_ ?_ ?_ ?_ ?_ ?_
 · intro j u hj
   have hk := heap_alloc_new w0 (.cells #[.int .i64 y, .int .i64 z] 3)
   rw [addr_plus, Nat.zero_add]
   have c := cell_of_heap hk j
   match j, hj with
   | 0, hj => simp at hj; subst hj; simp [iv]
   | 1, hj => simp at hj; subst hj; simp [iv]
 · intro u hu
   simp at hu
   rcases hu with rfl | rfl <;> rfl
 · unfold maxLen; omega
 · omega
 · simp; omega
 · intro v' w' ho' hg _
   refine h v' w' (by unfold OwnsI; simpa using ho') ?_
   exact ((Below.refl base w0).alloc hbase _).grown hg (by simp; omega) (fun k hk => (World.ownsRow.lt hown k hk).1)
set_option maxHeartbeats 1600000 in
theorem progLets (w : World) (rN : Nat) (hr : rN ≤ 3) : Calls Tryz.prog 119 #[.int .i64 (rN : Int)] w (IntsRet w (letsN rN)) := by
 obtain ⟨i0, hi, hz0, hz1, hz2⟩ := info_parts infoInt
 have h2r : IntKind.i64.wrap (2 * (rN : Int)) = 2 * (rN : Int) := IntWalk.i64_in _ (by omega)
 go_enter Tryz.func119, Tryz.ntmps119
 go_wp2_with (at_make; go_must (refine wpList_make_own _ rfl _ _ 33 rfl w.heap.size 3 i0 (.int .i64 0) 1 Tryz.underlying33 hi hz0 hz1 .i64 .i64 _ (2 * rN) rfl rfl (by omega) ?c3 ?c4 ?c5 ?_))
 case c3 => rw [hz2]; omega
 case c4 => unfold maxLen; omega
 case c5 => exact Nat.le_refl _
 intro w1 hown hg
 have hown0 : Hid (OwnsI w1 w.heap.size (.slice (some ⟨w.heap.size, 0, none⟩) 0 (2 * rN)) (letsN 0)) := hidI hown
 have hb0 := hidI ((Below.refl w.heap.size w).grown hg (Nat.le_refl _) (fun k hk => by cases hk))
 clear hown hg
 go_wp2
 go_loopg [3, 4, 9] rN (fun g o u i wr => ∃ k : Nat, k + g = rN ∧ i = .int .i64 k ∧ Hid (OwnsI wr w.heap.size o (letsN k)) ∧ Hid (Below w.heap.size w wr))
 case atStart => exact ⟨0, by omega, rfl, hown0, hb0⟩
 case round =>
  clear hown0 hb0
  obtain ⟨k, hk, rfl, hown, hb⟩ := hrel
  obtain ⟨a3, m3, c3, rfl⟩ : ∃ a m c, u3 = Value.slice a m c := by
   obtain ⟨_, ⟨h1, _⟩ | ⟨g, cap, cur, h1, _⟩⟩ := hown.out <;> exact ⟨_, _, _, h1⟩
  by_cases hlt : k < rN
  · have hki : (k : Int) < (rN : Int) := by omega
    have hlen := letsN_length k
    have hnx : letsN (k + 1) = letsN k ++ [((k : Int) + 1), -((k : Int) + 1)] := rfl
    have hneg : IntKind.i64.wrap (-((k : Int) + 1)) = -((k : Int) + 1) := IntWalk.i64_in _ (by omega)
    replace hnx := hidI hnx
    replace hk := hidI hk
    replace hlen := hidI hlen
    go_wp2_with (at_builtin; go_must (refine wpList_push2I rfl _ _ rfl w.heap.size _ (letsN k) _ _ rfl rfl (by exact hown.out) (by have := hlen.out; omega) hb.out.size ?_))
    intro v' w' hown' hb'
    have hown2 := hidI (show OwnsI w' w.heap.size v' (letsN (k + 1)) by rw [hnx.out]; exact hown')
    replace hb' := hidI (hb.out.trans hb')
    clear hown hb hown'
    go_wp2
    go_roundg (rN - (k + 1))
    case rel => exact ⟨k + 1, by have := hk.out; omega, by go_num, hown2, hb'⟩
    case measure => have := hk.out; omega
  · obtain rfl : k = rN := by omega
    have hki : ¬ (k : Int) < (k : Int) := by omega
    have hr : IntsRet w (letsN k) (.returned (.slice a3 m3 c3)) wr := ⟨_, rfl, hown.out.row (by rw [letsN_length]; omega), hb.out⟩
    replace hr := hidI hr
    replace hk := hidI hk
    go_wp2
    go_ret
    exact hr.out
set_option maxHeartbeats 1600000 in
theorem specLets (w : World) (rN : Nat) (hr : rN ≤ 3) : Calls Tryz.prog 70 #[.int .i64 (rN : Int)] w (IntsRet w (letsN rN)) := by
 obtain ⟨w1, hw1⟩ := exq (w.alloc (.cells #[] 3))
 have hown0 : Hid (OwnsI w1 w.heap.size (.slice (some ⟨w.heap.size, 0, none⟩) 0 0) (letsN 0)) := by rw [hw1]; exact hidI (OwnsI.lit w)
 have hb0 := hidI (show Below w.heap.size w w1 by rw [hw1]; exact (Below.refl _ _).alloc (Nat.le_refl _) _)
 replace hw1 := hidI hw1
 go_enter Tryz.func70, Tryz.ntmps70
 go_wp2
 rw [← hw1.out]
 go_loopg [3, 4] rN (fun g o i wr => ∃ k : Nat, k + g = rN ∧ i = .int .i64 ((k : Int) + 1) ∧ Hid (OwnsI wr w.heap.size o (letsN k)) ∧ Hid (Below w.heap.size w wr))
 case atStart => exact ⟨0, by omega, rfl, hown0, hb0⟩
 case round =>
  clear hown0 hb0
  obtain ⟨k, hk, rfl, hown, hb⟩ := hrel
  obtain ⟨a3, m3, c3, rfl⟩ : ∃ a m c, u3 = Value.slice a m c := by
   obtain ⟨_, ⟨h1, _⟩ | ⟨g, cap, cur, h1, _⟩⟩ := hown.out <;> exact ⟨_, _, _, h1⟩
  by_cases hlt : k < rN
  · have hki : (k : Int) + 1 ≤ (rN : Int) := by omega
    have hlen := letsN_length k
    have hnx : letsN (k + 1) = letsN k ++ [((k : Int) + 1), -((k : Int) + 1)] := rfl
    have hneg : IntKind.i64.wrap (-((k : Int) + 1)) = -((k : Int) + 1) := IntWalk.i64_in _ (by omega)
    replace hnx := hidI hnx
    replace hk := hidI hk
    replace hlen := hidI hlen
    go_wp2_with (at_builtin; go_must (refine wpList_pushI rfl _ _ rfl w.heap.size _ (letsN k) _ rfl rfl (by exact hown.out) (by have := hlen.out; omega) hb.out.size ?_))
    intro v' w' hown' hb'
    obtain ⟨a4, m4, c4, rfl⟩ : ∃ a m c, v' = Value.slice a m c := by
     obtain ⟨_, ⟨h1, _⟩ | ⟨g, cap, cur, h1, _⟩⟩ := hown' <;> exact ⟨_, _, _, h1⟩
    replace hown' := hidI hown'
    replace hb' := hidI (hb.out.trans hb')
    clear hown hb
    go_wp2_with (at_builtin; go_must (refine wpList_pushI rfl _ _ rfl w.heap.size _ (letsN k ++ [((k : Int) + 1)]) _ rfl rfl (by exact hown'.out) (by have := hlen.out; rw [List.length_append]; simp; omega) hb'.out.size ?_))
    intro v2 w2 hown2 hb2
    have hown3 := hidI (show OwnsI w2 w.heap.size v2 (letsN (k + 1)) by rw [hnx.out]; simpa using hown2)
    replace hb2 := hidI (hb'.out.trans hb2)
    clear hown' hb' hown2
    go_wp2
    go_roundg (rN - (k + 1))
    case rel => exact ⟨k + 1, by have := hk.out; omega, by go_num, hown3, hb2⟩
    case measure => have := hk.out; omega
  · obtain rfl : k = rN := by omega
    have hki : ¬ (k : Int) + 1 ≤ (k : Int) := by omega
    have hr : IntsRet w (letsN k) (.returned (.slice a3 m3 c3)) wr := ⟨_, rfl, hown.out.row (by rw [letsN_length]; omega), hb.out⟩
    replace hr := hidI hr
    replace hk := hidI hk
    go_wp2
    go_ret
    exact hr.out
end Go.Proofs.YtgnomlcjikfdhaaGreat
namespace Go.Proofs.YtgnomlcjikfdhaaGreat
open Go.RowKit
set_option linter.unusedVariables false
set_option linter.unusedSimpArgs false
def plN (s : Nat) (zs : List Int) : Nat → List Int
 | 0 => List.replicate s 0
 | k + 1 => (plN s zs k).set (zs.getD k 0).toNat ((k : Int) + 1)
theorem plN_length (s : Nat) (zs : List Int) : ∀ k, (plN s zs k).length = s := by
 intro k
 induction k with
 | zero => simp [plN]
 | succ k ih => simp [plN, ih]
theorem plN_in (s : Nat) (zs : List Int) : ∀ k, ∀ i, 0 ≤ (plN s zs k).getD i 0 ∧ (plN s zs k).getD i 0 ≤ k := by
 intro k
 induction k with
 | zero =>
  intro i
  unfold plN
  rw [List.getD_eq_getElem?_getD, List.getElem?_replicate]
  split <;> simp
 | succ k ih =>
  intro i
  have := ih i
  unfold plN
  rw [List.getD_eq_getElem?_getD] at this ⊢
  rw [List.getElem?_set]
  split
  · split
    · simp; omega
    · simp; omega
  · omega
def plB (s : Nat) (zs : List Int) (k : Nat) : Bool := decide (0 ≤ zs.getD k 0 ∧ zs.getD k 0 < (s : Int)) && decide ((plN s zs k).getD (zs.getD k 0).toNat 0 = 0)
def plAll (s : Nat) (zs : List Int) : Nat → Bool
 | 0 => true
 | k + 1 => plAll s zs k && plB s zs k
def okN (r s : Int) (es : List Ed) (zs : List Int) : Bool := isGr r s es && decide (zs.length ≠ 0 ∧ (zs.length : Int) ≤ s) && plAll s.toNat zs zs.length
def inP (pl : List Int) (e : Ed) : Bool := decide (0 < pl.getD e.1.toNat 0 ∧ 0 < pl.getD e.2.2.toNat 0)
def numE (pl : List Int) (e : Ed) : Ed := (pl.getD e.1.toNat 0 - 1, e.2.1, pl.getD e.2.2.toNat 0 - 1)
def rnN (pl : List Int) (es : List Ed) : Nat → List Ed
 | 0 => []
 | k + 1 => if inP pl (es.getD k e0) = true then putE (numE pl (es.getD k e0)) (rnN pl es k) else rnN pl es k
def rnE (r s : Int) (es : List Ed) (zs : List Int) : List Ed := if okN r s es zs = true then rnN (plN s.toNat zs zs.length) es es.length else es
structure TrSt where
 s : Int
 es : List Ed
 l : List Int
def upN (n : Nat) : List Int := (List.range n).map Int.ofNat
def othN (v : Int) : Nat → List Int
 | 0 => []
 | k + 1 => if (k : Int) = v then othN v k else othN v k ++ [(k : Int)]
def resN (v : Int) (l : List Int) : Nat → List Int
 | 0 => []
 | k + 1 => if (k : Int) = v then resN v l k else resN v l k ++ [l.getD k 0]
def coS (es : List Ed) (u : Int) (out : List Int) (l : Int) : List Int := if 0 ≤ nxV es u l ∧ nxV es u l ∉ out then out ++ [nxV es u l] else out
def coR (es : List Ed) (u : Int) (ls : List Int) (out : List Int) (k : Nat) : List Int := (ls.take k).foldl (coS es u) out
def coN (es : List Ed) (ls : List Int) : Nat → List Int
 | 0 => [0]
 | i + 1 => if i < (coN es ls i).length then coR es ((coN es ls i).getD i 0) ls (coN es ls i) ls.length else coN es ls i
theorem coN_stop {es : List Ed} {ls : List Int} {i : Nat} (h : (coN es ls i).length ≤ i) : ∀ j, coN es ls (i + j) = coN es ls i := by
 intro j
 induction j with
 | zero => rfl
 | succ j ih =>
  show (if i + j < (coN es ls (i + j)).length then coR es ((coN es ls (i + j)).getD (i + j) 0) ls (coN es ls (i + j)) ls.length else coN es ls (i + j)) = _
  rw [ih, if_neg (by omega)]
def CoIn (s : Nat) (out : List Int) : Prop := out.Nodup ∧ ∀ y ∈ out, 0 ≤ y ∧ y < (s : Int)
theorem CoIn.len : ∀ {s : Nat} {out : List Int}, CoIn s out → out.length ≤ s := by
 intro s
 induction s with
 | zero =>
  intro out h
  cases out with
  | nil => simp
  | cons y ys => have := h.2 y List.mem_cons_self; omega
 | succ s ih =>
  intro out h
  by_cases hm : (s : Int) ∈ out
  · have h2 : CoIn s (out.erase (s : Int)) := by
     refine ⟨h.1.erase _, fun y hy => ?_⟩
     have h3 := (h.1.mem_erase_iff).1 hy
     have h4 := h.2 y h3.2
     have h5 := h3.1
     omega
    have h6 := ih h2
    rw [List.length_erase_of_mem hm] at h6
    omega
  · have h2 : CoIn s out := ⟨h.1, fun y hy => by
     have h4 := h.2 y hy
     have h5 : y ≠ (s : Int) := fun e => hm (e ▸ hy)
     omega⟩
    have := ih h2
    omega
theorem nxV_in {s : Nat} {es : List Ed} (hE : EndsIn s es) {v l : Int} (h : 0 ≤ nxV es v l) : nxV es v l < (s : Int) := by
 unfold nxV at h ⊢
 cases e : stepsE v l es with
 | nil => rw [e] at h; simp at h
 | cons y ys =>
  simp only [List.headD_cons]
  have hy : y ∈ stepsE v l es := by rw [e]; exact List.mem_cons_self
  obtain ⟨x, hx, hl⟩ := mem_stepsE.1 hy
  have hx2 := hE x hx
  unfold Leads at hl
  omega
theorem CoIn.step {s : Nat} {es : List Ed} (hE : EndsIn s es) {u l : Int} {out : List Int} (h : CoIn s out) : CoIn s (coS es u out l) := by
 unfold coS
 split
 case isFalse => exact h
 case isTrue hc =>
  refine ⟨?_, ?_⟩
  · rw [List.nodup_append]
    exact ⟨h.1, by simp, fun a ha b hb => by rw [List.mem_singleton] at hb; subst hb; intro e; subst e; exact hc.2 ha⟩
  · intro y hy
    rcases List.mem_append.1 hy with hy | hy
    · exact h.2 y hy
    · rw [List.mem_singleton] at hy
      subst hy
      exact ⟨hc.1, nxV_in hE hc.1⟩
theorem CoIn.row {s : Nat} {es : List Ed} (hE : EndsIn s es) {u : Int} (ls : List Int) {out : List Int} (h : CoIn s out) (k : Nat) : CoIn s (coR es u ls out k) := by
 unfold coR
 induction ls.take k generalizing out with
 | nil => exact h
 | cons l t ih => exact ih (h.step hE)
theorem CoIn.all {s : Nat} {es : List Ed} (hE : EndsIn s es) (hs : 0 < s) (ls : List Int) : ∀ i, CoIn s (coN es ls i) := by
 intro i
 induction i with
 | zero => exact ⟨by simp [coN], fun y hy => by simp [coN] at hy; omega⟩
 | succ i ih =>
  unfold coN
  split
  · exact ih.row hE ls _
  · exact ih
def coL (r s : Int) (es : List Ed) (ls : List Int) : List Int := if isFo r s es = true then coN es ls 40 else []
theorem wpList_pushI_by {w0 : World} {ops : Array Oper} {rest : List Oper} {o : Oper} {a : Act} {Q : Exit → Act → World → Prop} (hgd : o.guard = none) (s x : Operand)
 (ho : o.op = .call { callee := .builtin .append, args := #[s, x], argTypes := #[33, 33] }) (base : Nat) (v : Value) (zs : List Int) (z : Int)
 (hs : a.eval s = v) (hx : a.eval x = .slice (some ⟨w0.heap.size, 0, none⟩) 1 1) (hown : OwnsI w0 base v zs) (hl : zs.length ≤ 1000000000) (hbase : base ≤ w0.heap.size)
 (h : ∀ v' w', OwnsI w' base v' (zs ++ [z]) → (w0.alloc (.cells #[.int .i64 z] 3)).grownBy w' v.ownBlock → (v'.ownBlock = v.ownBlock ∨ v'.ownBlock = some (w0.heap.size + 1)) → wpList Tryz.prog ops Q rest (a.put o.dst v') w') :
 wpList Tryz.prog ops Q (o :: rest) a (w0.alloc (.cells #[.int .i64 z] 3)) := by
 obtain ⟨i0, hi, hz0, hz1, hz2⟩ := info_parts infoInt
 refine wpList_append_own_at _ hgd s x 33 ho base 3 i0 (.int .i64 0) 1 8 Tryz.underlying33 hi hz0 hz1 hz2 rfl (by decide) v zs.length (zs.map iv) hs (World.ownsRow.alloc hown _) ⟨w0.heap.size, 0, none⟩ 1 1 [iv z] hx rfl (cell_one_new _ _ _) ?_ ?_ ?_ ?_ ?_
 · intro u hu
   simp at hu
   subst hu; rfl
 · unfold maxLen; omega
 · omega
 · simp; omega
 · intro v' w' ho' hg _ hw
   exact h v' w' (by unfold OwnsI; simpa using ho') hg (by simpa using hw)
theorem ownI_other {w w' : World} {base : Nat} {v : Value} {zs : List Int} (h : OwnsI w base v zs) (hb : ∀ k, v.ownBlock = some k → w'.heap[k]? = w.heap[k]?) : OwnsI w' base v zs := by
 obtain ⟨h1, h2 | ⟨g, cap, cur, rfl, hg, hh, hr⟩⟩ := h
 · exact ⟨h1, .inl h2⟩
 · exact ⟨h1, .inr ⟨g, cap, cur, rfl, hg, (hb g rfl).trans hh, hr⟩⟩
def CoSt (w : World) (base lo hi : Nat) (v : Value) (out : List Int) (lv : Value) (ls : List Int) : Prop :=
 OwnsI w base v out ∧ RowI w lo hi lv ls ∧ hi ≤ w.heap.size ∧ (∀ k, v.ownBlock = some k → k < lo ∨ hi ≤ k)
theorem CoSt.below {w w' : World} {base lo hi : Nat} {v : Value} {out : List Int} {lv : Value} {ls : List Int} (h : CoSt w base lo hi v out lv ls) (hb : Below w.heap.size w w') : CoSt w' base lo hi v out lv ls :=
 ⟨ownI_other h.1 (fun k hk => hb.block k (World.ownsRow.lt h.1 k hk).2), h.2.1.below hb h.2.2.1, Nat.le_trans h.2.2.1 hb.size, h.2.2.2⟩
theorem CoSt.push {w w' : World} {base lo hi : Nat} {v v' : Value} {out : List Int} {lv : Value} {ls : List Int} {z : Int} (h : CoSt w base lo hi v out lv ls) (ho : OwnsI w' base v' (out ++ [z]))
 (hg : (w.alloc (.cells #[.int .i64 z] 3)).grownBy w' v.ownBlock) (hv : v'.ownBlock = v.ownBlock ∨ v'.ownBlock = some (w.heap.size + 1)) : CoSt w' base lo hi v' (out ++ [z]) lv ls := by
 have hsz := hg.size
 have hb := (Below.refl w.heap.size w).alloc (Nat.le_refl _) (.cells #[.int .i64 z] 3)
 have h3 := h.2.2.1
 refine ⟨ho, h.2.1.keep (fun k q1 q2 => ?_), ?_, fun k hk => ?_⟩
 · rw [hg.block k (by simp; omega) (fun e => by rcases h.2.2.2 k e.symm with q | q <;> omega)]
   exact hb.block k (by omega)
 · simp at hsz; omega
 · rcases hv with e | e
   · exact h.2.2.2 k (e ▸ hk)
   · rw [e] at hk; right; have : w.heap.size + 1 = k := by simpa using hk
     omega
end Go.Proofs.YtgnomlcjikfdhaaGreat
