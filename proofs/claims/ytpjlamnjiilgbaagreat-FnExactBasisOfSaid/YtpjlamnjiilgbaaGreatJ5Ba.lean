import Derived.Laws.MakeOwn
import Derived.Laws.AppendOwn
import Derived.Deep.LoopGhost
import Derived.Test.YtpjlamnjiilgbaaGreatJ1Ba
import Derived.Test.YtpjlamnjiilgbaaGreatJ4Ba
namespace Go.Proofs.YtpjlamnjiilgbaaGreat
open Go.RowKit Go.Maps
set_option linter.unusedVariables false
set_option linter.unusedSimpArgs false
def letsN : Nat → List Int
 | 0 => []
 | k + 1 => letsN k ++ [((k : Int) + 1), -((k : Int) + 1)]
theorem letsN_length : ∀ k, (letsN k).length = 2 * k := by
 intro k
 induction k with
 | zero => rfl
 | succ k ih => rw [letsN, List.length_append, ih]; simp; omega
theorem letsN_in : ∀ k, ∀ l ∈ letsN k, -(k : Int) ≤ l ∧ l ≤ (k : Int) := by
 intro k
 induction k with
 | zero => intro l h; cases h
 | succ k ih =>
  intro l h
  rw [letsN, List.mem_append] at h
  rcases h with h | h
  · have := ih l h; omega
  · simp at h; omega
theorem wpList_push2I {w0 : World} {ops : Array Oper} {rest : List Oper} {o : Oper} {a : Act} {Q : Exit → Act → World → Prop} (hgd : o.guard = none) (s x : Operand)
 (ho : o.op = .call { callee := .builtin .append, args := #[s, x], argTypes := #[46, 46] }) (base : Nat) (v : Value) (zs : List Int) (y z : Int)
 (hs : a.eval s = v) (hx : a.eval x = .slice (some ⟨w0.heap.size, 0, none⟩) 2 2) (hown : OwnsI w0 base v zs) (hl : zs.length ≤ 1000000000) (hbase : base ≤ w0.heap.size)
 (h : ∀ v' w', OwnsI w' base v' (zs ++ [y, z]) → Below base w0 w' → wpList Tryz.prog ops Q rest (a.put o.dst v') w') :
 wpList Tryz.prog ops Q (o :: rest) a (w0.alloc (.cells #[.int .i64 y, .int .i64 z] 3)) := by
 obtain ⟨i0, hi, hz0, hz1, hz2⟩ := info_parts infoInt
 refine wpList_append_own _ hgd s x 46 ho base 3 i0 (.int .i64 0) 1 8 Tryz.underlying46 hi hz0 hz1 hz2 rfl (by decide) v zs.length (zs.map iv) hs (World.ownsRow.alloc hown _) ⟨w0.heap.size, 0, none⟩ 2 2 [iv y, iv z] hx rfl ?_ ?_ ?_ ?_ ?_ ?_
 · intro j u hj
   have hk := heap_alloc_new w0 (.cells #[.int .i64 y, .int .i64 z] 3)
   rw [addr_plus, Nat.zero_add]
   have c := cell_of_heap hk j
   match j, hj with
   | 0, hj => simp at hj; subst hj; simp [iv]
   | 1, hj => simp at hj; subst hj; simp [iv]
 · intro u hu
   simp at hu
   rcases hu with rfl | rfl <;> rfl
 · unfold maxLen; omega
 · omega
 · simp; omega
 · intro v' w' ho' hg _
   refine h v' w' (by unfold OwnsI; simpa using ho') ?_
   exact ((Below.refl base w0).alloc hbase _).grown hg (by simp; omega) (fun k hk => (World.ownsRow.lt hown k hk).1)
set_option maxHeartbeats 1600000 in
theorem progLets (w : World) (rN : Nat) (hr : rN ≤ 3) : Calls Tryz.prog 74 #[.int .i64 (rN : Int)] w (IntsRet w (letsN rN)) := by
 obtain ⟨i0, hi, hz0, hz1, hz2⟩ := info_parts infoInt
 have h2r : IntKind.i64.wrap (2 * (rN : Int)) = 2 * (rN : Int) := IntWalk.i64_in _ (by omega)
 go_enter Tryz.func74, Tryz.ntmps74
 go_wp2_with (at_make; go_must (refine wpList_make_own _ rfl _ _ 46 rfl w.heap.size 3 i0 (.int .i64 0) 1 Tryz.underlying46 hi hz0 hz1 .i64 .i64 _ (2 * rN) rfl rfl (by omega) ?c3 ?c4 ?c5 ?_))
 case c3 => rw [hz2]; omega
 case c4 => unfold maxLen; omega
 case c5 => exact Nat.le_refl _
 intro w1 hown hg
 have hown0 : Hid (OwnsI w1 w.heap.size (.slice (some ⟨w.heap.size, 0, none⟩) 0 (2 * rN)) (letsN 0)) := hidI hown
 have hb0 := hidI ((Below.refl w.heap.size w).grown hg (Nat.le_refl _) (fun k hk => by cases hk))
 clear hown hg
 go_wp2
 go_loopg [3, 4, 9] rN (fun g o u i wr => ∃ k : Nat, k + g = rN ∧ i = .int .i64 k ∧ Hid (OwnsI wr w.heap.size o (letsN k)) ∧ Hid (Below w.heap.size w wr))
 case atStart => exact ⟨0, by omega, rfl, hown0, hb0⟩
 case round =>
  clear hown0 hb0
  obtain ⟨k, hk, rfl, hown, hb⟩ := hrel
  obtain ⟨a3, m3, c3, rfl⟩ : ∃ a m c, u3 = Value.slice a m c := by
   obtain ⟨_, ⟨h1, _⟩ | ⟨g, cap, cur, h1, _⟩⟩ := hown.out <;> exact ⟨_, _, _, h1⟩
  by_cases hlt : k < rN
  · have hki : (k : Int) < (rN : Int) := by omega
    have hlen := letsN_length k
    have hnx : letsN (k + 1) = letsN k ++ [((k : Int) + 1), -((k : Int) + 1)] := rfl
    have hneg : IntKind.i64.wrap (-((k : Int) + 1)) = -((k : Int) + 1) := IntWalk.i64_in _ (by omega)
    replace hnx := hidI hnx
    replace hk := hidI hk
    replace hlen := hidI hlen
    go_wp2_with (at_builtin; go_must (refine wpList_push2I rfl _ _ rfl w.heap.size _ (letsN k) _ _ rfl rfl (by exact hown.out) (by have := hlen.out; omega) hb.out.size ?_))
    intro v' w' hown' hb'
    have hown2 := hidI (show OwnsI w' w.heap.size v' (letsN (k + 1)) by rw [hnx.out]; exact hown')
    replace hb' := hidI (hb.out.trans hb')
    clear hown hb hown'
    go_wp2
    go_roundg (rN - (k + 1))
    case rel => exact ⟨k + 1, by have := hk.out; omega, by go_num, hown2, hb'⟩
    case measure => have := hk.out; omega
  · obtain rfl : k = rN := by omega
    have hki : ¬ (k : Int) < (k : Int) := by omega
    have hr : IntsRet w (letsN k) (.returned (.slice a3 m3 c3)) wr := ⟨_, rfl, hown.out.row (by rw [letsN_length]; omega), hb.out⟩
    replace hr := hidI hr
    replace hk := hidI hk
    go_wp2
    go_ret
    exact hr.out
set_option maxHeartbeats 1600000 in
theorem specLets (w : World) (rN : Nat) (hr : rN ≤ 3) : Calls Tryz.prog 42 #[.int .i64 (rN : Int)] w (IntsRet w (letsN rN)) := by
 obtain ⟨w1, hw1⟩ := exq (w.alloc (.cells #[] 3))
 have hown0 : Hid (OwnsI w1 w.heap.size (.slice (some ⟨w.heap.size, 0, none⟩) 0 0) (letsN 0)) := by rw [hw1]; exact hidI (OwnsI.lit w)
 have hb0 := hidI (show Below w.heap.size w w1 by rw [hw1]; exact (Below.refl _ _).alloc (Nat.le_refl _) _)
 replace hw1 := hidI hw1
 go_enter Tryz.func42, Tryz.ntmps42
 go_wp2
 rw [← hw1.out]
 go_loopg [3, 4] rN (fun g o i wr => ∃ k : Nat, k + g = rN ∧ i = .int .i64 ((k : Int) + 1) ∧ Hid (OwnsI wr w.heap.size o (letsN k)) ∧ Hid (Below w.heap.size w wr))
 case atStart => exact ⟨0, by omega, rfl, hown0, hb0⟩
 case round =>
  clear hown0 hb0
  obtain ⟨k, hk, rfl, hown, hb⟩ := hrel
  obtain ⟨a3, m3, c3, rfl⟩ : ∃ a m c, u3 = Value.slice a m c := by
   obtain ⟨_, ⟨h1, _⟩ | ⟨g, cap, cur, h1, _⟩⟩ := hown.out <;> exact ⟨_, _, _, h1⟩
  by_cases hlt : k < rN
  · have hki : (k : Int) + 1 ≤ (rN : Int) := by omega
    have hlen := letsN_length k
    have hnx : letsN (k + 1) = letsN k ++ [((k : Int) + 1), -((k : Int) + 1)] := rfl
    have hneg : IntKind.i64.wrap (-((k : Int) + 1)) = -((k : Int) + 1) := IntWalk.i64_in _ (by omega)
    replace hnx := hidI hnx
    replace hk := hidI hk
    replace hlen := hidI hlen
    go_wp2_with (at_builtin; go_must (refine wpList_pushI rfl _ _ rfl w.heap.size _ (letsN k) _ rfl rfl (by exact hown.out) (by have := hlen.out; omega) hb.out.size ?_))
    intro v' w' hown' hb'
    obtain ⟨a4, m4, c4, rfl⟩ : ∃ a m c, v' = Value.slice a m c := by
     obtain ⟨_, ⟨h1, _⟩ | ⟨g, cap, cur, h1, _⟩⟩ := hown' <;> exact ⟨_, _, _, h1⟩
    replace hown' := hidI hown'
    replace hb' := hidI (hb.out.trans hb')
    clear hown hb
    go_wp2_with (at_builtin; go_must (refine wpList_pushI rfl _ _ rfl w.heap.size _ (letsN k ++ [((k : Int) + 1)]) _ rfl rfl (by exact hown'.out) (by have := hlen.out; rw [List.length_append]; simp; omega) hb'.out.size ?_))
    intro v2 w2 hown2 hb2
    have hown3 := hidI (show OwnsI w2 w.heap.size v2 (letsN (k + 1)) by rw [hnx.out]; simpa using hown2)
    replace hb2 := hidI (hb'.out.trans hb2)
    clear hown' hb' hown2
    go_wp2
    go_roundg (rN - (k + 1))
    case rel => exact ⟨k + 1, by have := hk.out; omega, by go_num, hown3, hb2⟩
    case measure => have := hk.out; omega
  · obtain rfl : k = rN := by omega
    have hki : ¬ (k : Int) + 1 ≤ (k : Int) := by omega
    have hr : IntsRet w (letsN k) (.returned (.slice a3 m3 c3)) wr := ⟨_, rfl, hown.out.row (by rw [letsN_length]; omega), hb.out⟩
    replace hr := hidI hr
    replace hk := hidI hk
    go_wp2
    go_ret
    exact hr.out
end Go.Proofs.YtpjlamnjiilgbaaGreat
namespace Go.Proofs.YtpjlamnjiilgbaaGreat
open Go.RowKit
set_option linter.unusedVariables false
set_option linter.unusedSimpArgs false
abbrev Ar := Ed × List Int
def d0 : Ar := (e0, [])
def vts (S : List Ar) : List Int := S.map (·.1.1)
def arr1 (es : List Ed) (i : Nat) (S : List Ar) (l : Int) : List Ar :=
 if 0 ≤ nxV es (S.getD i d0).1.1 l ∧ nxV es (S.getD i d0).1.1 l ∉ vts S then S ++ [((nxV es (S.getD i d0).1.1 l, l, (i : Int)), (S.getD i d0).2 ++ [l])] else S
def arrN (es : List Ed) (ls : List Int) (u : Int) : Nat → List Ar
 | 0 => [((u, 0, 0), [])]
 | k + 1 => if k < (arrN es ls u k).length then ls.foldl (arr1 es k) (arrN es ls u k) else arrN es ls u k
theorem getD_left {S T : List Ar} {j : Nat} (h : j < S.length) : (S ++ T).getD j d0 = S.getD j d0 := by
 rw [List.getD_eq_getElem?_getD, List.getElem?_append_left h, ← List.getD_eq_getElem?_getD]
theorem getD_last (S : List Ar) (x : Ar) : (S ++ [x]).getD S.length d0 = x := by
 rw [List.getD_eq_getElem?_getD, List.getElem?_append_right (Nat.le_refl _)]
 simp
structure GoodA (s : Nat) (u : Int) (S : List Ar) : Prop where
 pos : 0 < S.length
 zero : S.getD 0 d0 = ((u, 0, 0), [])
 back : ∀ j, 0 < j → j < S.length → ∃ b : Nat, b < j ∧ (S.getD j d0).1.2.2 = (b : Int) ∧ (S.getD j d0).2 = (S.getD b d0).2 ++ [(S.getD j d0).1.2.1]
 vert : ∀ j, j < S.length → 0 ≤ (S.getD j d0).1.1 ∧ (S.getD j d0).1.1 < (s : Int)
 cnt : S.length ≤ vxC s (vts S)
 wlen : ∀ j, j < S.length → (S.getD j d0).2.length ≤ j
 lets : ∀ j, j < S.length → -3 ≤ (S.getD j d0).1.2.1 ∧ (S.getD j d0).1.2.1 ≤ 3
theorem GoodA.length {s : Nat} {u : Int} {S : List Ar} (h : GoodA s u S) : S.length ≤ s := Nat.le_trans h.cnt (vxC_le s _)
theorem good_start {s : Nat} {u : Int} (hu : 0 ≤ u ∧ u < (s : Int)) : GoodA s u [((u, 0, 0), [])] where
 pos := by simp
 zero := rfl
 back := fun j h0 h1 => by simp at h1; omega
 vert := fun j h => by
  have : j = 0 := by simpa using h
  subst this; exact hu
 cnt := by
  refine List.one_le_countP_iff.2 ⟨u.toNat, List.mem_range.2 (by omega), ?_⟩
  exact decide_eq_true (by rw [show ((u.toNat : Nat) : Int) = u by omega]; simp [vts])
 wlen := fun j h => by
  have : j = 0 := by simpa using h
  subst this; simp
 lets := fun j h => by
  have : j = 0 := by simpa using h
  subst this; simp
theorem good_arr1 {s : Nat} {u : Int} {es : List Ed} {S : List Ar} {i : Nat} {l : Int} (h : GoodA s u S) (hi : i < S.length) (hl : -3 ≤ l ∧ l ≤ 3) (hN : ∀ v, 0 ≤ nxV es v l → nxV es v l < (s : Int)) : GoodA s u (arr1 es i S l) := by
 unfold arr1
 split
 case isFalse => exact h
 case isTrue hc =>
  obtain ⟨y, hy⟩ := exq (nxV es (S.getD i d0).1.1 l)
  have hyN := hN (S.getD i d0).1.1 hc.1
  rw [← hy] at hc hyN ⊢
  obtain ⟨X, hX⟩ : ∃ X : Ar, X = ((y, l, (i : Int)), (S.getD i d0).2 ++ [l]) := ⟨_, rfl⟩
  rw [← hX]
  have hcase : ∀ j, j < (S ++ [X]).length → j < S.length ∨ j = S.length := fun j hj => by simp at hj; omega
  constructor
  · simp
  · rw [getD_left h.pos]; exact h.zero
  · intro j h0 hj
    rcases hcase j hj with hj | rfl
    · obtain ⟨b, hb, h1, h2⟩ := h.back j h0 hj
      refine ⟨b, hb, ?_, ?_⟩
      · rw [getD_left hj]; exact h1
      · rw [getD_left hj, getD_left (by omega)]; exact h2
    · refine ⟨i, hi, ?_, ?_⟩
      · rw [getD_last, hX]
      · rw [getD_last, getD_left hi, hX]
  · intro j hj
    rcases hcase j hj with hj | rfl
    · rw [getD_left hj]; exact h.vert j hj
    · rw [getD_last, hX]; exact ⟨hc.1, hyN⟩
  · have hm : vxC s (vts S) + 1 ≤ vxC s (vts (S ++ [X])) := by
     refine cnt_lt (fun x hx hp => decide_eq_true ?_) ⟨y.toNat, List.mem_range.2 (by omega), ?_, ?_⟩
     · have := of_decide_eq_true hp
       unfold vts at this ⊢
       rw [List.map_append, List.mem_append]; exact .inl this
     · refine decide_eq_true ?_
       rw [show ((y.toNat : Nat) : Int) = y by omega]
       unfold vts
       rw [List.map_append, List.mem_append, hX]; exact .inr (by simp)
     · rw [show ((y.toNat : Nat) : Int) = y by omega]; exact decide_eq_false hc.2
    have := h.cnt
    simp only [List.length_append, List.length_cons, List.length_nil]
    omega
  · intro j hj
    rcases hcase j hj with hj | rfl
    · rw [getD_left hj]; exact h.wlen j hj
    · rw [getD_last, hX]
      have := h.wlen i hi
      show ((S.getD i d0).2 ++ [l]).length ≤ S.length
      rw [List.length_append, List.length_singleton]
      omega
  · intro j hj
    rcases hcase j hj with hj | rfl
    · rw [getD_left hj]; exact h.lets j hj
    · rw [getD_last, hX]; exact hl
theorem arr1_le (es : List Ed) (i : Nat) (S : List Ar) (l : Int) : S.length ≤ (arr1 es i S l).length := by
 unfold arr1; split
 · simp
 · exact Nat.le_refl _
theorem good_foldl {s : Nat} {u : Int} {es : List Ed} {i : Nat} : ∀ (ls : List Int) {S : List Ar}, GoodA s u S → i < S.length → (∀ l ∈ ls, -3 ≤ l ∧ l ≤ 3) → (∀ v l, -3 ≤ l ∧ l ≤ 3 → 0 ≤ nxV es v l → nxV es v l < (s : Int)) → GoodA s u (ls.foldl (arr1 es i) S) := by
 intro ls
 induction ls with
 | nil => intro S h _ _ _; exact h
 | cons l ls ih =>
  intro S h hi hl hN
  exact ih (good_arr1 h hi (hl l List.mem_cons_self) (fun v => hN v l (hl l List.mem_cons_self))) (Nat.lt_of_lt_of_le hi (arr1_le es i S l)) (fun l' h' => hl l' (List.mem_cons_of_mem _ h')) hN
theorem good_arrN {s : Nat} {u : Int} {es : List Ed} {ls : List Int} (hu : 0 ≤ u ∧ u < (s : Int)) (hl : ∀ l ∈ ls, -3 ≤ l ∧ l ≤ 3) (hN : ∀ v l, -3 ≤ l ∧ l ≤ 3 → 0 ≤ nxV es v l → nxV es v l < (s : Int)) : ∀ k, GoodA s u (arrN es ls u k) := by
 intro k
 induction k with
 | zero => exact good_start hu
 | succ k ih =>
  rw [arrN]
  split
  · rename_i h; exact good_foldl ls ih h hl hN
  · exact ih
theorem arrN_stay {es : List Ed} {ls : List Int} {u : Int} {k : Nat} (h : ¬ k < (arrN es ls u k).length) : ∀ m, arrN es ls u (k + m) = arrN es ls u k := by
 intro m
 induction m with
 | zero => rfl
 | succ m ih =>
  show arrN es ls u (k + m + 1) = _
  rw [arrN, ih, if_neg (by omega)]
theorem arrN_end {es : List Ed} {ls : List Int} {u : Int} {k : Nat} (h : ¬ k < (arrN es ls u k).length) (hk : k ≤ 41) : arrN es ls u 41 = arrN es ls u k := by
 have := arrN_stay h (41 - k)
 rwa [show k + (41 - k) = 41 by omega] at this
theorem nx_lt {r s : Int} {es : List Ed} (h : isFo r s es = true) : ∀ v l : Int, -3 ≤ l ∧ l ≤ 3 → 0 ≤ nxV es v l → nxV es v l < ((s.toNat : Nat) : Int) := by
 intro v l hl h0
 unfold isFo at h
 rw [Bool.and_eq_true] at h
 have hlim := isGr_lim h.1
 rcases nx_cases h.1 h.2 (v := v) (l := l) (by omega) with h1 | h1
 · omega
 · omega
def placeA (S : List Ar) (v : Int) : Nat := S.findIdx (fun x => x.1.1 == v)
theorem placeA_lt {S : List Ar} {v : Int} (h : v ∈ vts S) : placeA S v < S.length ∧ (S.getD (placeA S v) d0).1.1 = v := by
 unfold vts at h
 rw [List.mem_map] at h
 obtain ⟨x, hx, hv⟩ := h
 have hlt : placeA S v < S.length := List.findIdx_lt_length_of_exists ⟨x, hx, by rw [beq_iff_eq]; exact hv⟩
 refine ⟨hlt, ?_⟩
 have := List.findIdx_getElem (w := hlt)
 rw [beq_iff_eq] at this
 rw [List.getD_eq_getElem?_getD, List.getElem?_eq_getElem hlt]
 exact this
theorem placeA_first {S : List Ar} {v : Int} {j : Nat} (h : j < placeA S v) (hj : j < S.length) : (S.getD j d0).1.1 ≠ v := by
 have := List.not_of_lt_findIdx h
 rw [List.getD_eq_getElem?_getD, List.getElem?_eq_getElem hj]
 intro he
 have h2 : (S[j].1.1 == v) = true := by rw [beq_iff_eq]; exact he
 rw [this] at h2
 cases h2
theorem placeA_is {S : List Ar} {v : Int} {j : Nat} (hj : j < S.length) (hv : (S.getD j d0).1.1 = v) (hf : ∀ i, i < j → (S.getD i d0).1.1 ≠ v) : v ∈ vts S ∧ placeA S v = j := by
 have hm : v ∈ vts S := by
  unfold vts
  rw [List.mem_map]
  refine ⟨S[j], List.getElem_mem hj, ?_⟩
  rw [List.getD_eq_getElem?_getD, List.getElem?_eq_getElem hj] at hv
  exact hv
 refine ⟨hm, ?_⟩
 have h1 := placeA_lt hm
 rcases Nat.lt_trichotomy (placeA S v) j with h | h | h
 · exact absurd h1.2 (hf _ h)
 · exact h
 · exact absurd hv (placeA_first h hj)
theorem mem_vts {S : List Ar} {v : Int} : v ∈ vts S ↔ ∃ j, j < S.length ∧ (S.getD j d0).1.1 = v := by
 constructor
 · intro h; exact ⟨_, (placeA_lt h).1, (placeA_lt h).2⟩
 · rintro ⟨j, hj, hv⟩
   unfold vts
   rw [List.mem_map]
   refine ⟨S[j], List.getElem_mem hj, ?_⟩
   rw [List.getD_eq_getElem?_getD, List.getElem?_eq_getElem hj] at hv
   exact hv
def okPath (r s : Int) (es : List Ed) (u v : Int) : Bool := isFo r s es && isVx s u && isVx s v
def foundA (r : Int) (es : List Ed) (u : Int) : List Ar := arrN es (letsN r.toNat) u 41
def pathT (r s : Int) (es : List Ed) (u v : Int) : Bool := okPath r s es u v && decide (v ∈ vts (foundA r es u))
def pathA (r s : Int) (es : List Ed) (u v : Int) : List Int := if pathT r s es u v then ((foundA r es u).getD (placeA (foundA r es u) v) d0).2 else []
theorem foundA_good {r s : Int} {es : List Ed} {u : Int} (h : isFo r s es = true) (hu : 0 ≤ u ∧ u < s) : GoodA s.toNat u (foundA r es u) := by
 have hg := h
 unfold isFo at hg
 rw [Bool.and_eq_true] at hg
 have hlim := isGr_lim hg.1
 exact good_arrN (by omega) (fun l hl => by have := letsN_in _ l hl; omega) (nx_lt h) 41
theorem pathA_length (r s : Int) (es : List Ed) (u v : Int) : (pathA r s es u v).length ≤ 40 := by
 unfold pathA
 split
 · rename_i h
   unfold pathT okPath at h
   simp only [Bool.and_eq_true, decide_eq_true_eq] at h
   obtain ⟨⟨⟨h1, h2⟩, h3⟩, h4⟩ := h
   have hv := of_decide_eq_true h2
   have hG := foundA_good h1 hv
   have hp := placeA_lt h4
   have hl := hG.wlen _ hp.1
   have hg := h1
   unfold isFo at hg
   rw [Bool.and_eq_true] at hg
   have hlim := isGr_lim hg.1
   have := hG.length
   omega
 · simp
end Go.Proofs.YtpjlamnjiilgbaaGreat
namespace Go.Proofs.YtpjlamnjiilgbaaGreat
open Go.RowKit
set_option linter.unusedVariables false
set_option linter.unusedSimpArgs false
def putE (e : Ed) : List Ed → List Ed
 | [] => [e]
 | y :: ys => if 0 < cmpE e y then y :: putE e ys else if cmpE e y = 0 then y :: ys else e :: y :: ys
theorem putE_length (e : Ed) (l : List Ed) : (putE e l).length ≤ l.length + 1 := by
 induction l with
 | nil => simp [putE]
 | cons y ys ih =>
  unfold putE
  split
  · simp only [List.length_cons]; omega
  · split <;> simp
theorem putE_gt {e y : Ed} (ys : List Ed) (h : 0 < cmpE e y) : putE e (y :: ys) = y :: putE e ys := by rw [putE, if_pos h]
theorem putE_eq {e y : Ed} (ys : List Ed) (h : cmpE e y = 0) : putE e (y :: ys) = y :: ys := by rw [putE, if_neg (by omega), if_pos h]
theorem putE_lt {e y : Ed} (ys : List Ed) (h : cmpE e y < 0) : putE e (y :: ys) = e :: y :: ys := by rw [putE, if_neg (by omega), if_neg (by omega)]
theorem drop_oneE {l : List Ed} {k : Nat} (h : k < l.length) : l.drop k = l.getD k e0 :: l.drop (k + 1) := by
 rw [List.drop_eq_getElem_cons h, List.getD_eq_getElem?_getD, List.getElem?_eq_getElem h]; rfl
def LwEdges (w : World) (es : List Ed) (e : Ending) (w' : World) : Prop :=
 ∃ a cap, e = .returned (.slice a es.length cap) ∧ RowS 72 3 w' w.heap.size w'.heap.size (.slice a es.length cap) es.length (flatE es) ∧ Below w.heap.size w w'
theorem lwEdges_owns {w w' : World} {base : Nat} {v : Value} {es : List Ed} (h : OwnsE w' base v es) (hb : Below w.heap.size w w') (hB : w.heap.size ≤ base) (hl : es.length ≤ 1000000000000) : LwEdges w es (.returned v) w' := by
 obtain ⟨a, m, c, rfl⟩ := h.form3
 have hrow := h.row (by omega)
 obtain ⟨rfl, _⟩ := hrow.cap
 exact ⟨a, c, rfl, hrow.wide hB (Nat.le_refl _), hb⟩
set_option maxHeartbeats 3200000 in
theorem specPut (w : World) (v : Value) (es : List Ed) (f l t : Int) (h : ReadE w.heap.size w v es) (hl : es.length ≤ 100000000) :
 Calls Tryz.prog 120 #[v, .agg #[.int .i64 f, .int .i64 l, .int .i64 t]] w (LwEdges w (putE (f, l, t) es)) := by
 obtain ⟨a, cap, rfl, hnc⟩ := h.form
 obtain ⟨n, hn⟩ := exq es.length
 have hal := putE_length (f, l, t) es
 rw [← hn] at hl hnc hal ⊢
 rw [← hn] at h
 obtain ⟨R, hR⟩ := exq (putE (f, l, t) es)
 rw [← hR] at hal ⊢
 obtain ⟨w1, hw1⟩ := exq (w.alloc (.cells #[.int .i64 f, .int .i64 l, .int .i64 t] 72))
 have hb1 : Below w.heap.size w w1 := by rw [hw1]; exact (Below.refl _ _).alloc (Nat.le_refl _) _
 have hs1 : w1.heap.size = w.heap.size + 1 := by rw [hw1]; simp
 obtain ⟨g0, g1, g2⟩ := box3 hw1
 have hrd := hidI (h.below hb1)
 have hown0 : Hid (OwnsE (w1.alloc (.cells #[] 72)) w1.heap.size (.slice (some ⟨w.heap.size + 1, 0, none⟩) 0 0) []) := by
  rw [← hs1]
  exact hidI (OwnsE.litE w1)
 have hb0 := hidI ((Below.refl w1.heap.size w1).alloc (Nat.le_refl _) (.cells #[] 72))
 replace hn := hidI hn
 replace hw1 := hidI hw1
 replace hR := hidI hR
 replace hs1 := hidI hs1
 replace h := hidI h
 go_enter Tryz.func120, Tryz.ntmps120
 go_wp2
 rw [← hw1.out]
 go_loopg [5, 6, 7] n (fun g vv p i wr => ∃ (k : Nat) (o : List Ed) (q : Bool), k + g = n ∧ i = .int .i64 k ∧ p = .bool q ∧ o.length ≤ n + 1 ∧ Hid (R = o ++ (if q = true then es.drop k else putE (f, l, t) (es.drop k))) ∧ Hid (OwnsE wr w1.heap.size vv o) ∧ Hid (Below w1.heap.size w1 wr))
 case atStart => exact ⟨0, [], false, by omega, rfl, rfl, by simp, hidI (by rw [hR.out]; rfl), hown0, hb0⟩
 case round =>
  clear hown0 hb0
  obtain ⟨k, o, q, hk, rfl, rfl, hol, hinv, hown, hb⟩ := hrel
  obtain ⟨a1, m1, c1, rfl⟩ := hown.out.form3
  have hsw : w.heap.size < w1.heap.size := by have := hs1.out; omega
  have hbw : Below w.heap.size w wr := hb1.trans (hb.out.mono hb1.size)
  have p0 := below_cell g0 hb.out hsw
  have p1 := below_cell g1 hb.out hsw
  have p2 := below_cell g2 hb.out hsw
  by_cases hlt : k < n
  · obtain ⟨b, off, rfl, hB, c0, c1', c2⟩ := ReadE.at3 (hrd.out.below (hb.out.mono hb1.size)) k (by have := hn.out; omega)
    have hdr := drop_oneE (l := es) (k := k) (by have := hn.out; omega)
    obtain ⟨f', hf⟩ : ∃ z, z = (es.getD k e0).1 := ⟨_, rfl⟩
    obtain ⟨l', hll⟩ : ∃ z, z = (es.getD k e0).2.1 := ⟨_, rfl⟩
    obtain ⟨t', ht⟩ : ∃ z, z = (es.getD k e0).2.2 := ⟨_, rfl⟩
    have hke : es.getD k e0 = (f', l', t') := by rw [hf, hll, ht]
    rw [← hf] at c0
    rw [← hll] at c1'
    rw [← ht] at c2
    rw [hke] at hdr
    have hki : (k : Int) < (n : Int) := by omega
    have hpre : ∀ (o t : List Ed), R = o ++ t → o.length ≤ n + 1 := by
     intro o t hh
     have : R.length = o.length + t.length := by rw [hh, List.length_append]
     omega
    rw [hdr] at hinv
    have hcall := specCmpE wr.drew f l t f' l' t'
    obtain ⟨c, hc⟩ := exq (cmpE (f, l, t) (f', l', t'))
    rw [← hc] at hcall
    replace hf := hidI hf
    replace hll := hidI hll
    replace ht := hidI ht
    replace hke := hidI hke
    replace hpre := hidI hpre
    replace hdr := hidI hdr
    replace hk := hidI hk
    replace hc := hidI hc
    replace hbw := hidI hbw
    replace hown := hidI (show OwnsE wr.drew w1.heap.size (.slice a1 m1 c1) o from hown.out)
    go_wp2
    go_region_with (go_at_call 146; (with_reducible refine hcall.mono ?_); rintro e w2 ⟨rfl, hb2⟩)
    all_goals
     have hown2 := hidI (hown.out.later hb2 (Nat.le_refl _))
     have hb3 := hidI (hb.out.trans ((show Below wr.heap.size wr w2 from ⟨hb2.os, hb2.tape, hb2.output, hb2.size, hb2.block⟩).mono hb.out.size))
     have hsb := hb.out.size
     replace p0 := below_cell (w := wr.drew) p0 hb2 (Nat.lt_of_lt_of_le hsw hsb)
     replace p1 := below_cell (w := wr.drew) p1 hb2 (Nat.lt_of_lt_of_le hsw hsb)
     replace p2 := below_cell (w := wr.drew) p2 hb2 (Nat.lt_of_lt_of_le hsw hsb)
     replace c0 := below_cell (w := wr.drew) c0 hb2 (Nat.lt_of_lt_of_le (Nat.lt_trans hB hsw) hsb)
     replace c1' := below_cell (w := wr.drew) c1' hb2 (Nat.lt_of_lt_of_le (Nat.lt_trans hB hsw) hsb)
     replace c2 := below_cell (w := wr.drew) c2 hb2 (Nat.lt_of_lt_of_le (Nat.lt_trans hB hsw) hsb)
     clear hown hb hbw hb2
     have hown := hown2
     have hb := hb3
     have hbs := hb.out.size
     clear hown2 hb3
     rcases Int.lt_trichotomy c 0 with hzx | hzx | hzx
     · have t1 : (c == 0) = false := by rw [beq_eq_false_iff_ne]; omega
       have t2 : c < 0 := by omega
       cases q with
       | true =>
        have hnx := hidI (show R = (o ++ [(f', l', t')]) ++ (if true = true then es.drop (k + 1) else putE (f, l, t) (es.drop (k + 1))) by rw [hinv.out]; simp)
        go_wp2_with (at_builtin; go_must (refine wpList_pushE rfl _ _ rfl w1.heap.size _ (o) _ _ _ rfl rfl (by exact hown.out) (by first | omega | (simp; omega)) hbs ?_))
        intro v' w' hown' hb'
        replace hown' := hidI hown'
        replace hb' := hidI (hb.out.trans hb')
        clear hown hb
        go_wp2
        go_roundg (n - (k + 1))
        case rel => exact ⟨k + 1, _, true, by have := hk.out; omega, by go_num, rfl, hpre.out _ _ hnx.out, hnx, hown', hb'⟩
        case measure => have := hk.out; omega
       | false =>
        have hnx := hidI (show R = (o ++ [(f, l, t), (f', l', t')]) ++ (if true = true then es.drop (k + 1) else putE (f, l, t) (es.drop (k + 1))) by rw [hinv.out]; simp [putE_lt _ (hc.out ▸ hzx)])
        go_wp2_with (at_builtin; go_must (refine wpList_pushE rfl _ _ rfl w1.heap.size _ (o) _ _ _ rfl rfl (by exact hown.out) (by first | omega | (simp; omega)) hbs ?_))
        intro v' w' hown' hb'
        replace p0 := below_cell p0 hb' hsw
        replace p1 := below_cell p1 hb' hsw
        replace p2 := below_cell p2 hb' hsw
        replace c0 := below_cell c0 hb' (Nat.lt_trans hB hsw)
        replace c1' := below_cell c1' hb' (Nat.lt_trans hB hsw)
        replace c2 := below_cell c2 hb' (Nat.lt_trans hB hsw)
        replace hbs := Nat.le_trans hbs hb'.size
        replace hown' := hidI hown'
        replace hb' := hidI (hb.out.trans hb')
        clear hown hb
        obtain ⟨a2, m2, c2', rfl⟩ := hown'.out.form3
        have hown := hown'
        have hb := hb'
        clear hown' hb'
        go_wp2_with (at_builtin; go_must (refine wpList_pushE rfl _ _ rfl w1.heap.size _ (o ++ [(f, l, t)]) _ _ _ rfl rfl (by exact hown.out) (by first | omega | (simp; omega)) hbs ?_))
        intro v' w' hown' hb'
        replace hown' := hidI hown'
        replace hb' := hidI (hb.out.trans hb')
        clear hown hb
        go_wp2
        go_roundg (n - (k + 1))
        case rel => exact ⟨k + 1, _, true, by have := hk.out; omega, by go_num, rfl, hpre.out _ _ hnx.out, hnx, hown', hb'⟩
        case measure => have := hk.out; omega
     · have t1 : (c == 0) = true := by rw [beq_iff_eq]; exact hzx
       have t2 : ¬ c < 0 := by omega
       cases q with
       | true =>
        have hnx := hidI (show R = (o ++ [(f', l', t')]) ++ (if true = true then es.drop (k + 1) else putE (f, l, t) (es.drop (k + 1))) by rw [hinv.out]; simp)
        replace hzx := hidI hzx
        go_wp2_with (at_builtin; go_must (refine wpList_pushE rfl _ _ rfl w1.heap.size _ (o) _ _ _ rfl rfl (by exact hown.out) (by first | omega | (simp; omega)) hbs ?_))
        intro v' w' hown' hb'
        replace hown' := hidI hown'
        replace hb' := hidI (hb.out.trans hb')
        clear hown hb
        go_wp2
        go_roundg (n - (k + 1))
        case rel => exact ⟨k + 1, _, true, by have := hk.out; omega, by go_num, rfl, hpre.out _ _ hnx.out, hnx, hown', hb'⟩
        case measure => have := hk.out; omega
       | false =>
        have hnx := hidI (show R = (o ++ [(f', l', t')]) ++ (if true = true then es.drop (k + 1) else putE (f, l, t) (es.drop (k + 1))) by rw [hinv.out]; simp [putE_eq _ (hc.out ▸ hzx)])
        replace hzx := hidI hzx
        go_wp2_with (at_builtin; go_must (refine wpList_pushE rfl _ _ rfl w1.heap.size _ (o) _ _ _ rfl rfl (by exact hown.out) (by first | omega | (simp; omega)) hbs ?_))
        intro v' w' hown' hb'
        replace hown' := hidI hown'
        replace hb' := hidI (hb.out.trans hb')
        clear hown hb
        go_wp2
        go_roundg (n - (k + 1))
        case rel => exact ⟨k + 1, _, true, by have := hk.out; omega, by go_num, rfl, hpre.out _ _ hnx.out, hnx, hown', hb'⟩
        case measure => have := hk.out; omega
     · have t1 : (c == 0) = false := by rw [beq_eq_false_iff_ne]; omega
       have t2 : ¬ c < 0 := by omega
       cases q with
       | true =>
        have hnx := hidI (show R = (o ++ [(f', l', t')]) ++ (if true = true then es.drop (k + 1) else putE (f, l, t) (es.drop (k + 1))) by rw [hinv.out]; simp)
        go_wp2_with (at_builtin; go_must (refine wpList_pushE rfl _ _ rfl w1.heap.size _ (o) _ _ _ rfl rfl (by exact hown.out) (by first | omega | (simp; omega)) hbs ?_))
        intro v' w' hown' hb'
        replace hown' := hidI hown'
        replace hb' := hidI (hb.out.trans hb')
        clear hown hb
        go_wp2
        go_roundg (n - (k + 1))
        case rel => exact ⟨k + 1, _, true, by have := hk.out; omega, by go_num, rfl, hpre.out _ _ hnx.out, hnx, hown', hb'⟩
        case measure => have := hk.out; omega
       | false =>
        have hnx := hidI (show R = (o ++ [(f', l', t')]) ++ (if false = true then es.drop (k + 1) else putE (f, l, t) (es.drop (k + 1))) by rw [hinv.out]; simp [putE_gt _ (hc.out ▸ hzx)])
        go_wp2_with (at_builtin; go_must (refine wpList_pushE rfl _ _ rfl w1.heap.size _ (o) _ _ _ rfl rfl (by exact hown.out) (by first | omega | (simp; omega)) hbs ?_))
        intro v' w' hown' hb'
        replace hown' := hidI hown'
        replace hb' := hidI (hb.out.trans hb')
        clear hown hb
        go_wp2
        go_roundg (n - (k + 1))
        case rel => exact ⟨k + 1, _, false, by have := hk.out; omega, by go_num, rfl, hpre.out _ _ hnx.out, hnx, hown', hb'⟩
        case measure => have := hk.out; omega
  · obtain rfl : k = n := by omega
    have hki : ¬ (k : Int) < (k : Int) := by omega
    have hdn : es.drop k = [] := List.drop_eq_nil_of_le (by rw [← hn.out]; exact Nat.le_refl _)
    rw [hdn] at hinv
    have hbs := hb.out.size
    cases q with
    | true =>
     have hRo : R = o := by rw [hinv.out]; simp
     replace hRo := hidI hRo
     replace hbw := hidI hbw
     go_wp2
     go_ret
     rw [hRo.out]
     exact lwEdges_owns hown.out hbw.out hb1.size (by omega)
    | false =>
     have hRo : R = o ++ [(f, l, t)] := by rw [hinv.out]; rfl
     replace hRo := hidI hRo
     replace hbw := hidI hbw
     go_wp2_with (at_builtin; go_must (refine wpList_pushE rfl _ _ rfl w1.heap.size _ o _ _ _ rfl rfl (by exact hown.out) (by omega) hbs ?_))
     intro v' w' hown' hb'
     replace hown' := hidI hown'
     replace hb' := hidI hb'
     go_wp2
     go_ret
     rw [hRo.out]
     exact lwEdges_owns hown'.out (hbw.out.trans (hb'.out.mono hb1.size)) hb1.size (by simp; omega)
end Go.Proofs.YtpjlamnjiilgbaaGreat
