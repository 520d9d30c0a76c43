/- slices.SortFunc at edges. -/
import Derived.Test.YtacmpbekgipkfaaQG
import Derived.Test.YtacmpbekgipkfaaQF
import Derived.Test.YtacmpbekgipkfaaSrt
namespace Go.Proofs.Ytacmpbekgipkfaa
open Go.RowKit
set_option linter.unusedVariables false
set_option linter.unusedSimpArgs false

/-- What a function leaves that hands back an int and only makes memory of its own. -/
def GrewInt (w : World) (n : Int) (e : Ending) (w' : World) : Prop := e = .returned (.int .i64 n) ∧ ∃ q os', w' = Go.Sort.grow (w.drewN q) os'
set_option maxRecDepth 100000 in
set_option maxHeartbeats 1600000 in
theorem progCmpG (w : World) (f l t f' l' t' : Int) :
    Calls Try.prog 65 #[.agg #[.int .i64 f, .int .i64 l, .int .i64 t], .agg #[.int .i64 f', .int .i64 l', .int .i64 t']] w (GrewInt w (cmpE (f, l, t) (f', l', t'))) := by
  obtain ⟨c, hc⟩ : ∃ c, c = cmpE (f, l, t) (f', l', t') := ⟨_, rfl⟩
  have hor := cmpE_or f l t f' l' t'
  rw [← hc] at hor ⊢
  obtain ⟨w1, hw1⟩ : ∃ w1, w1 = (w.alloc (.cells #[.int .i64 f, .int .i64 l, .int .i64 t] 44)).alloc (.cells #[.int .i64 f', .int .i64 l', .int .i64 t'] 44) := ⟨_, rfl⟩
  have e1 : w1 = Go.Sort.grow w #[.cells #[.int .i64 f, .int .i64 l, .int .i64 t] 44, .cells #[.int .i64 f', .int .i64 l', .int .i64 t'] 44] := by rw [hw1, Go.Sort.alloc_eq_grow, Go.Sort.alloc_eq_grow, Go.Sort.grow_grow]; rfl
  replace e1 := hidI e1
  have hb1 : Below w.heap.size w w1 := by rw [hw1]; exact ((Below.refl _ _).alloc (Nat.le_refl _) _).alloc (by simp) _
  have hg := heap_box w (.cells #[.int .i64 f, .int .i64 l, .int .i64 t] 44) (.cells #[.int .i64 f', .int .i64 l', .int .i64 t'] 44)
  have hh := heap_alloc_new (w.alloc (.cells #[.int .i64 f, .int .i64 l, .int .i64 t] 44)) (.cells #[.int .i64 f', .int .i64 l', .int .i64 t'] 44)
  rw [← hw1] at hg hh
  rw [show (w.alloc (.cells #[.int .i64 f, .int .i64 l, .int .i64 t] 44)).heap.size = w.heap.size + 1 by simp] at hh
  have g0 := cell_of_heap hg 0
  have g1 := cell_of_heap hg 1
  have g2 := cell_of_heap hg 2
  have k0 := cell_of_heap hh 0
  have k1 := cell_of_heap hh 1
  have k2 := cell_of_heap hh 2
  simp at g0 g1 g2 k0 k1 k2
  obtain ⟨x, hx⟩ : ∃ x, x = sgnI f f' := ⟨_, rfl⟩
  obtain ⟨y, hy⟩ : ∃ y, y = sgnI l l' := ⟨_, rfl⟩
  obtain ⟨z, hz⟩ : ∃ z, z = sgnI t t' := ⟨_, rfl⟩
  have y1 := fun W => gpCmp W f f'
  have y2 := fun W => gpCmp W l l'
  have y3 := fun W => gpCmp W t t'
  rw [← hx, ← hy, ← hz] at hor
  rw [← hx] at y1
  rw [← hy] at y2
  rw [← hz] at y3
  replace hc := hidI hc
  replace hw1 := hidI hw1
  replace hor := hidI hor
  replace hx := hidI hx
  replace hy := hidI hy
  replace hz := hidI hz
  clear hg hh
  go_enter Try.func65, Try.ntmps65
  go_wp2
  rw [← hw1.out]
  refine wp_region_still_tail 15 (by kernel_rfl) (by kernel_rfl) ?_
  simp only [List.take_succ_cons, List.take_zero, List.drop_succ_cons, List.drop_zero]
  repeat still_step
  still_call (y1 _)
  repeat still_step
  still_call (y2 _)
  repeat still_step
  still_call (y3 _)
  refine wpStill_nil ?_
  change wpList _ _ _ _ _ w1.drew
  obtain ⟨w2, hw2⟩ : ∃ w2, w2 = w1.drew := ⟨_, rfl⟩
  rw [← hw2]
  have hb2 : Below w.heap.size w w2 := by rw [hw2]; exact below_dn hb1 1
  obtain ⟨w3, hw3⟩ : ∃ w3, w3 = w2.alloc (.cells #[.int .i64 x, .int .i64 y, .int .i64 z] 3) := ⟨_, rfl⟩
  have hb3 : Below w.heap.size w w3 := by rw [hw3]; exact hb2.alloc hb2.size _
  have hh3 := heap_alloc_new w2 (.cells #[.int .i64 x, .int .i64 y, .int .i64 z] 3)
  rw [← hw3] at hh3
  have hcall := or3_any w3 w2.heap.size x y z (by
    intro k hk
    have hk3 : k = 0 ∨ k = 1 ∨ k = 2 := by omega
    have h2 := cell_of_heap hh3 k
    simp at h2
    rcases hk3 with rfl | rfl | rfl <;> simpa [nth3] using h2)
  have e2 : w2 = Go.Sort.grow (w.drewN 1) #[.cells #[.int .i64 f, .int .i64 l, .int .i64 t] 44, .cells #[.int .i64 f', .int .i64 l', .int .i64 t'] 44] := by rw [hw2, e1.out]; rfl
  have hgr : ∃ q os', w3 = Go.Sort.grow (w.drewN q) os' := ⟨1, _, by rw [hw3, e2, Go.Sort.alloc_eq_grow, Go.Sort.grow_grow]⟩
  replace hgr := hidI hgr
  clear e2
  replace hw2 := hidI hw2
  replace hw3 := hidI hw3
  clear hh3 g0 g1 g2 k0 k1 k2 y1 y2 y3
  go_wp2_with fail
  rw [← hw3.out]
  refine hcall.mono ?_
  rintro e w4 ⟨rfl, rfl⟩
  go_wp2
  go_ret
  exact ⟨ret_i hor.out.symm, hgr.out⟩

def encE (x : Ed) : List Value := [.int .i64 x.1, .int .i64 x.2.1, .int .i64 x.2.2]
theorem swoE : Go.Sort.SWO (ltOf cmpE) where
  irrefl x := by unfold ltOf; rw [cmpE_self]; rfl
  trans x y z h1 h2 := by unfold ltOf at *; simp only [decide_eq_true_eq] at *; exact cmpE_trans h1 h2
  ntrans x y z h1 h2 := by
    unfold ltOf at *
    simp only [decide_eq_false_iff_not] at *
    have n1 := cmpE_neg x y
    have n2 := cmpE_neg y z
    have n3 := cmpE_neg x z
    rcases cmpE_cases x y with c | c | c
    · omega
    · have := cmpE_zero c; subst this; exact h2
    · rcases cmpE_cases y z with d | d | d
      · omega
      · have := cmpE_zero d; subst this; omega
      · have := cmpE_trans (a := z) (b := y) (c := x) (by omega) (by omega)
        omega
theorem arr_at {es : List Ed} {i : Nat} (h : i < es.length) : (es.toArray)[i]! = es.getD i e0 := by
  rw [getElem!_pos _ i (by simpa using h), List.getD_eq_getElem?_getD, List.getElem?_eq_getElem h]
  rfl
theorem flat_at {es : List Ed} {k : Nat} (h : k < es.length * 3) : (encE ((es.toArray)[k / 3]!))[k % 3]! = iv ((flatE es).getD k 0) := by
  obtain ⟨i, j, hj, rfl⟩ : ∃ i j, j < 3 ∧ k = i * 3 + j := ⟨k / 3, k % 3, Nat.mod_lt _ (by omega), by omega⟩
  have hi : i < es.length := by omega
  rw [show (i * 3 + j) / 3 = i by omega, show (i * 3 + j) % 3 = j by omega, arr_at hi]
  obtain ⟨g0, g1, g2⟩ := flatE_at es i hi
  have hj3 : j = 0 ∨ j = 1 ∨ j = 2 := by omega
  rcases hj3 with rfl | rfl | rfl
  · rw [Nat.add_zero, g0]; rfl
  · rw [g1]; rfl
  · rw [g2]; rfl
theorem flatK_E {es : List Ed} {k : Nat} (h : k < es.length * 3) : (Go.Sort.flatK encE 3 es.toArray)[k]! = iv ((flatE es).getD k 0) := by
  rw [Go.Sort.get_flatK encE 3 es.toArray k (by simpa using h)]
  exact flat_at h
def SortRet (w : World) (base g cap : Nat) (es : List Ed) (e : Ending) (w' : World) : Prop :=
  e = .returned (.tuple #[]) ∧ w.grownBy w' (some g) ∧ ∃ ds : List Ed, ds.Perm es ∧ ds.Pairwise (fun a b => ¬ cmpE b a < 0) ∧ OwnsE w' base (.slice (some ⟨g, 0, none⟩) es.length cap) ds
set_option maxHeartbeats 1600000 in
theorem sortE_any (w : World) (base g cap : Nat) (es : List Ed) (hown : OwnsE w base (.slice (some ⟨g, 0, none⟩) es.length cap) es) (hl : es.length ≤ 100000) :
    Calls Try.prog 64 #[.slice (some ⟨g, 0, none⟩) es.length cap, .func (.func 65) #[] #[]] w (SortRet w base g cap es) := by
  have hblk := (World.ownsRow.lt hown g rfl).2
  have eg : ∀ args w, (callFunc 65 args).run Try.prog w = .ok (.enter 65 args) w := enters_of Try.func65 (by kernel_rfl) rfl
  have hcmp : CmpLays Try.prog 65 #[] encE 3 cmpE g 0 es.toArray.size w := fun _ _ _ _ x y => progCmpG _ x.1 x.2.1 x.2.2 y.1 y.2.1 y.2.2
  have hH : Go.Sort.HoldsK encE 3 w g 0 es.toArray := by
    intro j hj
    have hj' : j < es.length * 3 := by simpa using hj
    rw [Nat.zero_add]
    refine ⟨?_, World.ownsRow.frozenAt hown j⟩
    rw [World.ownsRow.cellAt hown j hj', flatK_E hj', List.getElem?_map, List.getD_eq_getElem?_getD]
    have : j < (flatE es).length := by rw [flatE_length]; exact hj'
    rw [List.getElem?_eq_getElem this]
    rfl
  have hcon := AnyQ.slices_SortFunc Try.sortEdge 3 Try.isAgg44 Try.sizeOf44 encE (fun _ => rfl) (fun x v hv => by
    simp [encE] at hv
    rcases hv with rfl | rfl | rfl <;> rfl) cmpE swoE 65 #[] g 0 cap es.toArray w eg hcmp hH hblk (by simp; omega)
  change Calls Try.prog 64 _ _ _ at hcon
  rw [show es.toArray.size = es.length by simp] at hcon
  refine hcon.mono ?_
  rintro e w' ⟨rfl, d', n, os, hp, hs, rfl⟩
  obtain ⟨hp1, hp2, hp3⟩ := hp
  have hsz : d'.size = es.length := by simpa using hp1
  have hperm : d'.toList.Perm es := by
    have h1 : (d'.extract 0 es.length).toList = d'.toList := by rw [← hsz]; simp
    have h2 : (es.toArray.extract 0 es.length).toList = es := by simp
    rw [h1, h2] at hp3
    exact hp3
  have hd : d' = d'.toList.toArray := by simp
  have hdl : d'.toList.length = es.length := by simpa using hsz
  obtain ⟨ds, hds⟩ : ∃ ds, ds = d'.toList := ⟨_, rfl⟩
  rw [← hds] at hd hperm hdl
  subst hd
  have hheap : ∀ k, k < w.heap.size → (sortWorldK encE 3 w g 0 n ds.toArray os).heap[k]? = (w.heap.modify g (Go.Sort.onCells (Go.Sort.putCells id 0 (Go.Sort.flatK encE 3 ds.toArray))))[k]? := fun k hk => by
    show ((Go.Sort.mapBlock (Go.Sort.ahead w n) g _).heap ++ os)[k]? = _
    rw [Array.getElem?_append_left (by simp [Go.Sort.mapBlock, Go.Sort.ahead]; exact hk)]
    rfl
  refine ⟨rfl, ⟨rfl, rfl, rfl, ?_, fun k hk hne => ?_⟩, ds, hperm, ?_, ?_⟩
  · show w.heap.size ≤ ((Go.Sort.mapBlock (Go.Sort.ahead w n) g _).heap ++ os).size
    simp [Go.Sort.mapBlock, Go.Sort.ahead]
  · rw [hheap k hk, Array.getElem?_modify, if_neg (fun e => hne (by rw [e]))]
  · rw [List.pairwise_iff_getElem]
    intro i j hi hj hij hc
    have := hs i j (Nat.zero_le _) hij (by omega)
    unfold ltOf at this
    rw [arr_at hi, arr_at hj, List.getD_eq_getElem?_getD, List.getD_eq_getElem?_getD, List.getElem?_eq_getElem hi, List.getElem?_eq_getElem hj] at this
    simp only [Option.getD_some, decide_eq_false_iff_not] at this
    exact this hc
  · obtain ⟨h1, h2 | ⟨g', cap', cur, hv, hg, hh, hc1, hc2, hc3, hc4⟩⟩ := hown
    · cases h2.1
    · cases hv
      refine ⟨by rw [List.length_map, flatE_length, hdl], .inr ⟨g, cap, _, by rw [hdl], hg, by rw [hheap g hblk, Array.getElem?_modify, if_pos rfl, hh]; rfl, by rw [hdl]; exact hc1, hc2, by simp [Go.Sort.putCells]; exact hc3, ?_⟩⟩
      apply List.ext_getElem?
      intro k
      rw [List.getElem?_take, List.getElem?_map]
      by_cases hk : k < ds.length * 3
      · have hkc : k < cur.size := by rw [hc3]; rw [hdl] at hk; have : es.length * 3 ≤ cap * 3 := Nat.mul_le_mul_right _ hc1; omega
        have hkf : k < (flatE ds).length := by rw [flatE_length]; exact hk
        rw [if_pos hk, Array.getElem?_toList]
        unfold Go.Sort.putCells
        rw [Array.getElem?_mapIdx, Array.getElem?_eq_getElem hkc, Option.map_some, if_pos ⟨Nat.zero_le _, by simp; exact hk⟩, Nat.sub_zero, flatK_E hk, List.getD_eq_getElem?_getD, List.getElem?_eq_getElem hkf]
        rfl
      · have hkf : ¬ k < (flatE ds).length := by rw [flatE_length]; exact hk
        rw [if_neg hk, List.getElem?_eq_none (by omega)]
        rfl
end Go.Proofs.Ytacmpbekgipkfaa
