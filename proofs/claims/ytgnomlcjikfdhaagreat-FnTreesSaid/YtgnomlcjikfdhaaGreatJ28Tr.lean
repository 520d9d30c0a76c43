import Derived.Laws.CopyOwn
import Derived.Deep.RegionLaw
import Derived.Deep.LoopGhost
import Derived.Laws.MakeOwn
import Derived.Deep.RegionHeld3
import Derived.Test.YtgnomlcjikfdhaaGreatJ14Tr
import Derived.Test.YtgnomlcjikfdhaaGreatJ7Tr
import Derived.Test.YtgnomlcjikfdhaaGreatSrt
import Derived.Test.YtgnomlcjikfdhaaGreatJ1Tr
import Derived.Test.YtgnomlcjikfdhaaGreatJ20Tr
import Derived.Test.YtgnomlcjikfdhaaGreatJ4Tr
import Derived.Test.YtgnomlcjikfdhaaGreatJ18Tr
import Derived.Test.YtgnomlcjikfdhaaGreatJ25Tr
namespace Go.Proofs.YtgnomlcjikfdhaaGreat
open Go.RowKit
set_option linter.unusedVariables false
set_option linter.unusedSimpArgs false
def GrewInt (w : World) (n : Int) (e : Ending) (w' : World) : Prop := e = .returned (.int .i64 n) ∧ ∃ q os', w' = Go.Sort.grow (w.drewN q) os'
set_option maxRecDepth 100000 in
set_option maxHeartbeats 1600000 in
theorem progCmpG (w : World) (f l t f' l' t' : Int) :
 Calls Tryz.prog 86 #[.agg #[.int .i64 f, .int .i64 l, .int .i64 t], .agg #[.int .i64 f', .int .i64 l', .int .i64 t']] w (GrewInt w (cmpE (f, l, t) (f', l', t'))) := by
 obtain ⟨c, hc⟩ := exq (cmpE (f, l, t) (f', l', t'))
 have hor := cmpE_or f l t f' l' t'
 rw [← hc] at hor ⊢
 obtain ⟨w1, hw1⟩ := exq ((w.alloc (.cells #[.int .i64 f, .int .i64 l, .int .i64 t] 36)).alloc (.cells #[.int .i64 f', .int .i64 l', .int .i64 t'] 36))
 have e1 : w1 = Go.Sort.grow w #[.cells #[.int .i64 f, .int .i64 l, .int .i64 t] 36, .cells #[.int .i64 f', .int .i64 l', .int .i64 t'] 36] := by rw [hw1, Go.Sort.alloc_eq_grow, Go.Sort.alloc_eq_grow, Go.Sort.grow_grow]; rfl
 replace e1 := hidI e1
 have hb1 : Below w.heap.size w w1 := by rw [hw1]; exact ((Below.refl _ _).alloc (Nat.le_refl _) _).alloc (by simp) _
 have hg := heap_box w (.cells #[.int .i64 f, .int .i64 l, .int .i64 t] 36) (.cells #[.int .i64 f', .int .i64 l', .int .i64 t'] 36)
 have hh := heap_alloc_new (w.alloc (.cells #[.int .i64 f, .int .i64 l, .int .i64 t] 36)) (.cells #[.int .i64 f', .int .i64 l', .int .i64 t'] 36)
 rw [← hw1] at hg hh
 rw [show (w.alloc (.cells #[.int .i64 f, .int .i64 l, .int .i64 t] 36)).heap.size = w.heap.size + 1 by simp] at hh
 obtain ⟨g0, g1, g2⟩ := cell3 hg
 obtain ⟨k0, k1, k2⟩ := cell3 hh
 simp at g0 g1 g2 k0 k1 k2
 obtain ⟨x, hx⟩ := exq (sgnI f f')
 obtain ⟨y, hy⟩ := exq (sgnI l l')
 obtain ⟨z, hz⟩ := exq (sgnI t t')
 have y1 := fun W => gpCmp W f f'
 have y2 := fun W => gpCmp W l l'
 have y3 := fun W => gpCmp W t t'
 rw [← hx, ← hy, ← hz] at hor
 rw [← hx] at y1
 rw [← hy] at y2
 rw [← hz] at y3
 replace hc := hidI hc
 replace hw1 := hidI hw1
 replace hor := hidI hor
 replace hx := hidI hx
 replace hy := hidI hy
 replace hz := hidI hz
 clear hg hh
 go_enter Tryz.func86, Tryz.ntmps86
 go_wp2
 rw [← hw1.out]
 refine wp_region_still_tail 15 (by kernel_rfl) (by kernel_rfl) ?_
 simp only [List.take_succ_cons, List.take_zero, List.drop_succ_cons, List.drop_zero]
 repeat still_step
 still_call (y1 _)
 repeat still_step
 still_call (y2 _)
 repeat still_step
 still_call (y3 _)
 refine wpStill_nil ?_
 change wpList _ _ _ _ _ w1.drew
 obtain ⟨w2, hw2⟩ := exq w1.drew
 rw [← hw2]
 have hb2 : Below w.heap.size w w2 := by rw [hw2]; exact below_dn hb1 1
 obtain ⟨w3, hw3⟩ := exq (w2.alloc (.cells #[.int .i64 x, .int .i64 y, .int .i64 z] 3))
 have hb3 : Below w.heap.size w w3 := by rw [hw3]; exact hb2.alloc hb2.size _
 have hh3 := heap_alloc_new w2 (.cells #[.int .i64 x, .int .i64 y, .int .i64 z] 3)
 rw [← hw3] at hh3
 have hcall := or3_any w3 w2.heap.size x y z (by
  intro k hk
  have hk3 : k = 0 ∨ k = 1 ∨ k = 2 := by omega
  have h2 := cell_of_heap hh3 k
  simp at h2
  rcases hk3 with rfl | rfl | rfl <;> simpa [nth3] using h2)
 have e2 : w2 = Go.Sort.grow (w.drewN 1) #[.cells #[.int .i64 f, .int .i64 l, .int .i64 t] 36, .cells #[.int .i64 f', .int .i64 l', .int .i64 t'] 36] := by rw [hw2, e1.out]; rfl
 have hgr : ∃ q os', w3 = Go.Sort.grow (w.drewN q) os' := ⟨1, _, by rw [hw3, e2, Go.Sort.alloc_eq_grow, Go.Sort.grow_grow]⟩
 replace hgr := hidI hgr
 clear e2
 replace hw2 := hidI hw2
 replace hw3 := hidI hw3
 clear hh3 g0 g1 g2 k0 k1 k2 y1 y2 y3
 go_wp2_with fail
 rw [← hw3.out]
 refine hcall.mono ?_
 rintro e w4 ⟨rfl, rfl⟩
 go_wp2
 go_ret
 exact ⟨ret_i hor.out.symm, hgr.out⟩
def encE (x : Ed) : List Value := [.int .i64 x.1, .int .i64 x.2.1, .int .i64 x.2.2]
theorem swoE : Go.Sort.SWO (ltOf cmpE) where
 irrefl x := by unfold ltOf; rw [cmpE_self]; rfl
 trans x y z h1 h2 := by unfold ltOf at *; simp only [decide_eq_true_eq] at *; exact cmpE_trans h1 h2
 ntrans x y z h1 h2 := by
  unfold ltOf at *
  simp only [decide_eq_false_iff_not] at *
  have n1 := cmpE_neg x y
  have n2 := cmpE_neg y z
  have n3 := cmpE_neg x z
  rcases cmpE_cases x y with c | c | c
  · omega
  · have := cmpE_zero c; subst this; exact h2
  · rcases cmpE_cases y z with d | d | d
    · omega
    · have := cmpE_zero d; subst this; omega
    · have := cmpE_trans (a := z) (b := y) (c := x) (by omega) (by omega)
      omega
theorem arr_at {es : List Ed} {i : Nat} (h : i < es.length) : (es.toArray)[i]! = es.getD i e0 := by
 rw [getElem!_pos _ i (by simpa using h), List.getD_eq_getElem?_getD, List.getElem?_eq_getElem h]
 rfl
theorem flat_at {es : List Ed} {k : Nat} (h : k < es.length * 3) : (encE ((es.toArray)[k / 3]!))[k % 3]! = iv ((flatE es).getD k 0) := by
 obtain ⟨i, j, hj, rfl⟩ : ∃ i j, j < 3 ∧ k = i * 3 + j := ⟨k / 3, k % 3, Nat.mod_lt _ (by omega), by omega⟩
 have hi : i < es.length := by omega
 rw [show (i * 3 + j) / 3 = i by omega, show (i * 3 + j) % 3 = j by omega, arr_at hi]
 obtain ⟨g0, g1, g2⟩ := flatE_at es i hi
 have hj3 : j = 0 ∨ j = 1 ∨ j = 2 := by omega
 rcases hj3 with rfl | rfl | rfl
 · rw [Nat.add_zero, g0]; rfl
 · rw [g1]; rfl
 · rw [g2]; rfl
theorem flatK_E {es : List Ed} {k : Nat} (h : k < es.length * 3) : (Go.Sort.flatK encE 3 es.toArray)[k]! = iv ((flatE es).getD k 0) := by
 rw [Go.Sort.get_flatK encE 3 es.toArray k (by simpa using h)]
 exact flat_at h
def SortRet (w : World) (base g cap : Nat) (es : List Ed) (e : Ending) (w' : World) : Prop :=
 e = .returned (.tuple #[]) ∧ w.grownBy w' (some g) ∧ ∃ ds : List Ed, ds.Perm es ∧ ds.Pairwise (fun a b => ¬ cmpE b a < 0) ∧ OwnsE w' base (.slice (some ⟨g, 0, none⟩) es.length cap) ds
set_option maxHeartbeats 1600000 in
theorem sortE_any (w : World) (base g cap : Nat) (es : List Ed) (hown : OwnsE w base (.slice (some ⟨g, 0, none⟩) es.length cap) es) (hl : es.length ≤ 100000) :
 Calls Tryz.prog 85 #[.slice (some ⟨g, 0, none⟩) es.length cap, .func (.func 86) #[] #[]] w (SortRet w base g cap es) := by
 have hblk := (World.ownsRow.lt hown g rfl).2
 have eg : ∀ args w, (callFunc 86 args).run Tryz.prog w = .ok (.enter 86 args) w := enters_of Tryz.func86 (by kernel_rfl) rfl
 have hcmp : CmpLays Tryz.prog 86 #[] encE 3 cmpE g 0 es.toArray.size w := fun _ _ _ _ x y => progCmpG _ x.1 x.2.1 x.2.2 y.1 y.2.1 y.2.2
 have hH : Go.Sort.HoldsK encE 3 w g 0 es.toArray := by
  intro j hj
  have hj' : j < es.length * 3 := by simpa using hj
  rw [Nat.zero_add]
  refine ⟨?_, World.ownsRow.frozenAt hown j⟩
  rw [World.ownsRow.cellAt hown j hj', flatK_E hj', List.getElem?_map, List.getD_eq_getElem?_getD]
  have : j < (flatE es).length := by rw [flatE_length]; exact hj'
  rw [List.getElem?_eq_getElem this]
  rfl
 have hcon := AnyQ.slices_SortFunc Tryz.sortEdge 3 Tryz.isAgg36 Tryz.sizeOf36 encE (fun _ => rfl) (fun x v hv => by
  simp [encE] at hv
  rcases hv with rfl | rfl | rfl <;> rfl) cmpE swoE 86 #[] g 0 cap es.toArray w eg hcmp hH hblk (by simp; omega)
 change Calls Tryz.prog 85 _ _ _ at hcon
 rw [show es.toArray.size = es.length by simp] at hcon
 refine hcon.mono ?_
 rintro e w' ⟨rfl, d', n, os, hp, hs, rfl⟩
 obtain ⟨hp1, hp2, hp3⟩ := hp
 have hsz : d'.size = es.length := by simpa using hp1
 have hperm : d'.toList.Perm es := by
  have h1 : (d'.extract 0 es.length).toList = d'.toList := by rw [← hsz]; simp
  have h2 : (es.toArray.extract 0 es.length).toList = es := by simp
  rw [h1, h2] at hp3
  exact hp3
 have hd : d' = d'.toList.toArray := by simp
 have hdl : d'.toList.length = es.length := by simpa using hsz
 obtain ⟨ds, hds⟩ := exq d'.toList
 rw [← hds] at hd hperm hdl
 subst hd
 have hheap : ∀ k, k < w.heap.size → (sortWorldK encE 3 w g 0 n ds.toArray os).heap[k]? = (w.heap.modify g (Go.Sort.onCells (Go.Sort.putCells id 0 (Go.Sort.flatK encE 3 ds.toArray))))[k]? := fun k hk => by
  show ((Go.Sort.mapBlock (Go.Sort.ahead w n) g _).heap ++ os)[k]? = _
  rw [Array.getElem?_append_left (by simp [Go.Sort.mapBlock, Go.Sort.ahead]; exact hk)]
  rfl
 refine ⟨rfl, ⟨rfl, rfl, rfl, ?_, fun k hk hne => ?_⟩, ds, hperm, ?_, ?_⟩
 · show w.heap.size ≤ ((Go.Sort.mapBlock (Go.Sort.ahead w n) g _).heap ++ os).size
   simp [Go.Sort.mapBlock, Go.Sort.ahead]
 · rw [hheap k hk, Array.getElem?_modify, if_neg (fun e => hne (by rw [e]))]
 · rw [List.pairwise_iff_getElem]
   intro i j hi hj hij hc
   have := hs i j (Nat.zero_le _) hij (by omega)
   unfold ltOf at this
   rw [arr_at hi, arr_at hj, List.getD_eq_getElem?_getD, List.getD_eq_getElem?_getD, List.getElem?_eq_getElem hi, List.getElem?_eq_getElem hj] at this
   simp only [Option.getD_some, decide_eq_false_iff_not] at this
   exact this hc
 · obtain ⟨h1, h2 | ⟨g', cap', cur, hv, hg, hh, hc1, hc2, hc3, hc4⟩⟩ := hown
   · cases h2.1
   · cases hv
     refine ⟨by rw [List.length_map, flatE_length, hdl], .inr ⟨g, cap, _, by rw [hdl], hg, by rw [hheap g hblk, Array.getElem?_modify, if_pos rfl, hh]; rfl, by rw [hdl]; exact hc1, hc2, by simp [Go.Sort.putCells]; exact hc3, ?_⟩⟩
     apply List.ext_getElem?
     intro k
     rw [List.getElem?_take, List.getElem?_map]
     by_cases hk : k < ds.length * 3
     · have hkc : k < cur.size := by rw [hc3]; rw [hdl] at hk; have : es.length * 3 ≤ cap * 3 := Nat.mul_le_mul_right _ hc1; omega
       have hkf : k < (flatE ds).length := by rw [flatE_length]; exact hk
       rw [if_pos hk, Array.getElem?_toList]
       unfold Go.Sort.putCells
       rw [Array.getElem?_mapIdx, Array.getElem?_eq_getElem hkc, Option.map_some, if_pos ⟨Nat.zero_le _, by simp; exact hk⟩, Nat.sub_zero, flatK_E hk, List.getD_eq_getElem?_getD, List.getElem?_eq_getElem hkf]
       rfl
     · have hkf : ¬ k < (flatE ds).length := by rw [flatE_length]; exact hk
       rw [if_neg hk, List.getElem?_eq_none (by omega)]
       rfl
end Go.Proofs.YtgnomlcjikfdhaaGreat
namespace Go.Proofs.YtgnomlcjikfdhaaGreat
open Go.RowKit
set_option linter.unusedVariables false
set_option linter.unusedSimpArgs false
def NilRet (w : World) (e : Ending) (w' : World) : Prop := e = .returned (.tuple #[]) ∧ Below w.heap.size w w'
set_option maxRecDepth 100000 in
set_option maxHeartbeats 1600000 in
theorem insert_nil (w : World) (f : Value) (hf : Hid (f = .func (.func 86) #[] #[])) :
 Calls Tryz.prog 142 #[.slice none 0 0, .int .i64 0, .int .i64 0, f] w (NilRet w) := by
 have hr : NilRet w (.returned (.tuple #[])) w := ⟨rfl, Below.refl _ _⟩
 replace hr := hidI hr
 go_enter Tryz.func142, Tryz.ntmps142
 go_wp2
 go_loopg [8] 1 (fun g i wr => i = .int .i64 1 ∧ g = 1 ∧ Hid (wr = w))
 case atStart => exact ⟨rfl, rfl, hidI rfl⟩
 case round =>
  obtain ⟨rfl, hg, hw⟩ := hrel
  replace hg := hidI hg
  go_wp2
  (try simp only [Exit.inBlock, Exit.then]); first | refine bodyPost_end (results_none rfl _ _ _) rfl ?_ | refine bodyPost_ret (results_none rfl _ _ _) rfl ?_
  rw [hw.out]; exact hr.out
set_option maxRecDepth 100000 in
set_option maxHeartbeats 1600000 in
theorem pdq_nil (w : World) (f : Value) (n : Int) (hf : Hid (f = .func (.func 86) #[] #[])) :
 Calls Tryz.prog 120 #[.slice none 0 0, .int .i64 0, .int .i64 0, .int .i64 n, f] w (NilRet w) := by
 have hi := insert_nil w f hf
 go_enter Tryz.func120, Tryz.ntmps120
 go_wp2_with fail
 go_loopg [1, 2] 1 (fun g i j wr => i = .int .i64 0 ∧ j = .int .i64 0 ∧ g = 1 ∧ Hid (wr = w))
 case atStart => exact ⟨rfl, rfl, rfl, hidI rfl⟩
 case round =>
  obtain ⟨rfl, rfl, hg, hw⟩ := hrel
  replace hg := hidI hg
  rw [← hw.out] at hi
  go_wp2_with fail
  refine hi.mono ?_
  rintro e w4 hr
  rw [hw.out] at hr
  obtain ⟨rfl, hb⟩ := hr
  go_wp2
  (try simp only [Exit.inBlock, Exit.then]); first | refine bodyPost_end (results_none rfl _ _ _) rfl ?_ | refine bodyPost_ret (results_none rfl _ _ _) rfl ?_
  exact ⟨rfl, hb⟩
set_option maxRecDepth 100000 in
set_option maxHeartbeats 1600000 in
theorem len64_zero (w : World) : Calls Tryz.prog 151 #[.int .u64 0] w (fun e w' => e = .returned (.int .i64 0) ∧ w' = w) := by
 go_enter Tryz.func151, Tryz.ntmps151
 go_wp2
 go_ret
 exact ⟨ret_i (by kernel_rfl), rfl⟩
theorem len_zero (w : World) : Calls Tryz.prog 121 #[.int .u64 0] w (fun e w' => e = .returned (.int .i64 0) ∧ w' = w) := by
 have h := len64_zero w
 go_enter Tryz.func121, Tryz.ntmps121
 go_wp2_with fail
 refine h.mono ?_
 rintro e w2 ⟨rfl, rfl⟩
 go_wp2
 go_ret
 exact ⟨rfl, rfl⟩
set_option maxHeartbeats 1600000 in
theorem sort_nil (w : World) (f : Value) (hf : Hid (f = .func (.func 86) #[] #[])) :
 Calls Tryz.prog 85 #[.slice none 0 0, f] w (NilRet w) := by
 have hq := pdq_nil w f 0 hf
 have hl := len_zero w
 go_enter Tryz.func85, Tryz.ntmps85
 go_wp2_with fail
 refine hl.mono ?_
 rintro e w2 ⟨rfl, h2⟩
 have h3 := h2.symm
 subst h3
 go_wp2_with fail
 refine hq.mono ?_
 rintro e w4 ⟨rfl, hb⟩
 go_wp2
 (try simp only [Exit.inBlock, Exit.then]); first | refine bodyPost_end (results_none rfl _ _ _) rfl ?_ | refine bodyPost_ret (results_none rfl _ _ _) rfl ?_
 exact ⟨rfl, hb⟩
def SortAll (base : Nat) (es : List Ed) (v : Value) (w : World) (e : Ending) (w' : World) : Prop :=
 e = .returned (.tuple #[]) ∧ Below base w w' ∧ ∃ ds : List Ed, ds.Perm es ∧ ds.Pairwise (fun a b => ¬ cmpE b a < 0) ∧ OwnsE w' base v ds
theorem sort_all (w : World) (base : Nat) (v : Value) (es : List Ed) (hown : OwnsE w base v es) (hb : base ≤ w.heap.size) (hl : es.length ≤ 100000) :
 Calls Tryz.prog 85 #[v, .func (.func 86) #[] #[]] w (SortAll base es v w) := by
 have hown' := hown
 have hlt := World.ownsRow.lt hown
 obtain ⟨_, ⟨rfl, h2⟩ | ⟨g, cap, cur, rfl, _⟩⟩ := hown'
 · have he : es = [] := List.length_eq_zero_iff.1 h2
   subst he
   refine (sort_nil w _ (hidI rfl)).mono ?_
   rintro e w' ⟨rfl, hb2⟩
   exact ⟨rfl, hb2.mono hb, [], List.Perm.refl _, List.Pairwise.nil, OwnsS.nil _ _⟩
 · refine (sortE_any w base g cap es hown hl).mono ?_
   rintro e w' ⟨rfl, hg, ds, hp, hs, ho⟩
   exact ⟨rfl, (Below.refl base w).grown hg hb (fun k hk => by cases hk; exact (hlt g rfl).1), ds, hp, hs, ho⟩
end Go.Proofs.YtgnomlcjikfdhaaGreat
namespace Go.Proofs.YtgnomlcjikfdhaaGreat
open Go.RowKit
set_option linter.unusedVariables false
set_option linter.unusedSimpArgs false
set_option maxHeartbeats 3200000 in
theorem specCon (w : World) (r s : Int) (v : Value) (es : List Ed) (h : ReadE w.heap.size w v es) (hs : -9223372036854775808 ≤ s ∧ s ≤ 9223372036854775807) (hl : es.length ≤ 10000000) :
 Calls Tryz.prog 13 #[.agg #[.int .i64 r, .int .i64 s, v]] w (LwBool w (conG r s es)) := by
 obtain ⟨a, cap, rfl, hnc⟩ := h.form
 obtain ⟨n, hn⟩ := exq es.length
 rw [← hn] at hl hnc ⊢
 rw [← hn] at h
 obtain ⟨w1, hw1⟩ := exq (w.alloc (.cells #[.int .i64 r, .int .i64 s, .slice a n cap] 26))
 have hb1 : Below w.heap.size w w1 := by rw [hw1]; exact (Below.refl _ _).alloc (Nat.le_refl _) _
 have hs1' : w.heap.size < w1.heap.size := by rw [hw1]; simp
 obtain ⟨g0, g1, g2⟩ := box3 hw1
 obtain ⟨wd, hwd⟩ := exq w1.drew
 have hbd1 : Below w1.heap.size w1 wd := by rw [hwd]; exact below_dn (Below.refl w1.heap.size w1) 1
 have d0 := below_cell g0 hbd1 hs1'
 have d1 := below_cell g1 hbd1 hs1'
 have d2 := below_cell g2 hbd1 hs1'
 have hbd := hb1.trans (hbd1.mono hb1.size)
 have hs1 : w.heap.size < wd.heap.size := Nat.lt_of_lt_of_le hs1' hbd1.size
 have hcf := specIsGr wd r s (.slice a n cap) es ((h.below hbd).mono hbd.size) hs (by omega)
 obtain ⟨B, hB⟩ := exq (isGr r s es)
 rw [← hB] at hcf
 obtain ⟨F, hF⟩ := exq (conG r s es)
 rw [← hF]
 obtain ⟨X, hX⟩ := exq (reachG r s es 0)
 have hFe : F = (B && decide ((X.length : Int) = s)) := by rw [hF, hX, hB]; rfl
 obtain ⟨m, hm⟩ : ∃ m, X.length = m := ⟨_, rfl⟩
 rw [hm] at hFe
 replace hF := hidI hF
 replace hX := hidI hX
 replace hB := hidI hB
 replace hn := hidI hn
 replace h := hidI h
 replace hw1 := hidI hw1
 replace hwd := hidI hwd
 clear hbd1 g0 g1 g2
 cases B with
 | false =>
  have hfin : F = false := by rw [hFe]; rfl
  replace hfin := hidI hfin
  clear hFe hm
  go_enter Tryz.func13, Tryz.ntmps13
  go_wp2
  rw [← hw1.out]
  refine hideQ (fun _ _ d _ _ h => by cases d <;> exact h) (fun Q' hnorm hpan => ?_)
  refine wp_region_held_drew (S := (fun z => z.cell? ⟨w.heap.size, 0, none⟩ = some (.int .i64 r) ∧ z.cell? ⟨w.heap.size, 1, none⟩ = some (.int .i64 s) ∧ z.cell? ⟨w.heap.size, 2, none⟩ = some (.slice a n cap))) (by kernel_rfl) ?_ (fun hHeld => ?_)
  · try dsimp only
    rw [← hwd.out]
    ((repeat' apply And.intro) <;> assumption)
  rw [← hwd.out] at hHeld ⊢
  refine tk 0 3 ?_
  refine rd 1 (fun K hK => ?_)
  rw [if_pos (by rfl)]
  go_simp
  go_at_call 54
  (with_reducible refine hcf.mono ?_)
  rintro e w2 ⟨rfl, hb2⟩
  have p0 := below_cell d0 hb2 hs1
  have p1 := below_cell d1 hb2 hs1
  have p2 := below_cell d2 hb2 hs1
  have hb12 := hbd.trans (hb2.mono hbd.size)
  clear hcf
  refine hK.out _ _ ?_ (fun hHeld => ?_)
  · try dsimp only
    ((repeat' apply And.intro) <;> assumption)
  clear hK
  try simp only [Act.put, lyA, lyB, lyC]
  refine tk 2 5 ?_
  refine tn 3 6 ?_
  refine tn 4 7 ?_
  refine tn 5 8 ?_
  refine tn 6 9 ?_
  refine tn 7 10 ?_
  refine tn 8 11 ?_
  refine tk 9 12 ?_
  refine tk 10 2 ?_
  refine wpAnyH_done (by kernel_rfl) ?_ _
  refine hnorm _ _ ?_
  clear hnorm hpan
  repeat clear hHeld
  try simp only [Exit.then]
  have hbz := hidI hb12
  go_wp2
  go_ret
  exact ⟨ret_bool hfin.out.symm, hbz.out⟩
 | true =>
  obtain ⟨q, hq⟩ := exq (((m : Int) == s))
  have hfin : F = q := by
   rw [hFe, Bool.true_and, hq]
   by_cases hms : (m : Int) = s
   · rw [decide_eq_true hms]; exact (beq_iff_eq.2 hms).symm
   · rw [decide_eq_false hms]; exact (beq_eq_false_iff_ne.2 hms).symm
  replace hfin := hidI hfin
  replace hq := hq.symm
  clear hFe
  go_enter Tryz.func13, Tryz.ntmps13
  go_wp2
  rw [← hw1.out]
  refine hideQ (fun _ _ d _ _ h => by cases d <;> exact h) (fun Q' hnorm hpan => ?_)
  refine wp_region_held_drew (S := (fun z => z.cell? ⟨w.heap.size, 0, none⟩ = some (.int .i64 r) ∧ z.cell? ⟨w.heap.size, 1, none⟩ = some (.int .i64 s) ∧ z.cell? ⟨w.heap.size, 2, none⟩ = some (.slice a n cap))) (by kernel_rfl) ?_ (fun hHeld => ?_)
  · try dsimp only
    rw [← hwd.out]
    ((repeat' apply And.intro) <;> assumption)
  rw [← hwd.out] at hHeld ⊢
  refine tk 0 3 ?_
  refine rd 1 (fun K hK => ?_)
  rw [if_pos (by rfl)]
  go_simp
  go_at_call 54
  (with_reducible refine hcf.mono ?_)
  rintro e w2 ⟨rfl, hb2⟩
  have p0 := below_cell d0 hb2 hs1
  have p1 := below_cell d1 hb2 hs1
  have p2 := below_cell d2 hb2 hs1
  have hb12 := hbd.trans (hb2.mono hbd.size)
  clear hcf
  refine hK.out _ _ ?_ (fun hHeld => ?_)
  · try dsimp only
    ((repeat' apply And.intro) <;> assumption)
  clear hK
  try simp only [Act.put, lyA, lyB, lyC]
  refine tk 2 5 ?_
  refine tg 3 6 ?_
  refine tg 6 9 ?_
  refine tg 7 10 ?_
  refine rd 4 (fun K hK => ?_)
  rw [if_pos (by kernel_rfl)]
  go_simp
  have hcr := specReach w2 r s (.slice a n cap) es 0 ((h.out.below hb12).mono hb12.size) hs (by have := hn.out; omega)
  rw [← hX.out] at hcr
  go_at_call 55
  (with_reducible refine hcr.mono ?_)
  rintro e w3 ⟨v3, rfl, hrow3, hb3⟩
  clear hcr
  have hs2 : w.heap.size < w2.heap.size := Nat.lt_of_lt_of_le hs1 hb2.size
  have y0 := below_cell p0 hb3 hs2
  have y1 := below_cell p1 hb3 hs2
  have y2 := below_cell p2 hb3 hs2
  obtain ⟨a3, c3, rfl⟩ : ∃ a3 c3, v3 = Value.slice a3 X.length c3 := by
   obtain ⟨_, ⟨h1, h2⟩ | ⟨g, off, cap, cur, h1, _⟩⟩ := hrow3
   · exact ⟨_, _, by rw [h1, h2]; rfl⟩
   · exact ⟨_, _, h1⟩
  rw [hm]
  replace hb12 := hb12.trans (hb3.mono hb12.size)
  refine hK.out _ _ ?_ (fun hHeld => ?_)
  · try dsimp only
    ((repeat' apply And.intro) <;> assumption)
  clear hK
  try simp only [Act.put, lyA, lyB, lyC]
  refine tg 5 8 ?_
  refine tg 8 11 ?_
  refine tk 9 12 ?_
  refine tk 10 2 ?_
  refine wpAnyH_done (by kernel_rfl) ?_ _
  refine hnorm _ _ ?_
  clear hnorm hpan
  repeat clear hHeld
  try simp only [Exit.then]
  have hbz := hidI hb12
  go_wp2
  go_ret
  exact ⟨ret_bool hfin.out.symm, hbz.out⟩
end Go.Proofs.YtgnomlcjikfdhaaGreat
