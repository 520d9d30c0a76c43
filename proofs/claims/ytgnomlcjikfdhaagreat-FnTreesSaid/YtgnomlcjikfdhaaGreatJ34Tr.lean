import Derived.Deep.Cut
import Derived.Test.YtgnomlcjikfdhaaGreatJ26Tr
import Derived.Test.YtgnomlcjikfdhaaGreatShelf
import Derived.Test.YtgnomlcjikfdhaaGreatJ27Tr
namespace Go.Proofs.YtgnomlcjikfdhaaGreat
open Go.RowKit Go.Maps
set_option linter.unusedVariables false
set_option linter.unusedSimpArgs false
theorem pathEq_any (w : World) (f l t v : Int) (B : Nat) (hB : w.cell? ⟨B, 0, none⟩ = some (.int .i64 v)) :
 Calls Tryz.prog 125 #[.agg #[.int .i64 f, .int .i64 l, .int .i64 t], .pointer (some ⟨B, 0, none⟩)] w (LwBool w (f == v)) := by
 obtain ⟨w1, hw1⟩ := exq (w.alloc (.cells #[.int .i64 f, .int .i64 l, .int .i64 t] 99))
 have hb1 : Below w.heap.size w w1 := by rw [hw1]; exact (Below.refl _ _).alloc (Nat.le_refl _) _
 obtain ⟨g0, g1, g2⟩ := box3 hw1
 have hBl : B < w.heap.size := block_lt_of_cell hB
 have hB1 := below_cell hB hb1 hBl
 obtain ⟨q, hq⟩ := exq ((f == v))
 have hq' := hq.symm
 rw [← hq]
 replace hw1 := hidI hw1
 replace hq := hidI hq
 go_enter Tryz.func125, Tryz.ntmps125
 go_wp2
 rw [← hw1.out]
 try go_wp2
 go_ret
 exact ⟨ret_bool rfl, hb1⟩
def LwIndex (w : World) (F : List Ed) (v : Int) (e : Ending) (w' : World) : Prop :=
 Below w.heap.size w w' ∧ ((∃ k : Nat, k < F.length ∧ e = .returned (.int .i64 k) ∧ (F.getD k e0).1 = v ∧ ∀ j, j < k → (F.getD j e0).1 ≠ v) ∨ (e = .returned (.int .i64 (-1)) ∧ ∀ j, j < F.length → (F.getD j e0).1 ≠ v))
set_option maxHeartbeats 1600000 in
theorem index_any (w : World) (vF : Value) (F : List Ed) (v : Int) (B : Nat) (h : ReadE w.heap.size w vF F) (hl : F.length ≤ 1000) (hB : w.cell? ⟨B, 0, none⟩ = some (.int .i64 v)) :
 Calls Tryz.prog 124 #[vF, .func (.func 125) #[] #[.pointer (some ⟨B, 0, none⟩)]] w (LwIndex w F v) := by
 obtain ⟨a, cap, rfl, hnc⟩ := h.form
 obtain ⟨n, hn⟩ := exq F.length
 rw [← hn] at hl hnc ⊢
 rw [← hn] at h
 have hBl : B < w.heap.size := block_lt_of_cell hB
 replace hn := hidI hn
 replace h := hidI h
 go_enter Tryz.func124, Tryz.ntmps124
 go_wp2
 go_loopg [5, 8] n (fun g q i wr => ∃ k : Nat, k + g = n ∧ i = .int .i64 k ∧ Hid (∀ j, j < k → (F.getD j e0).1 ≠ v) ∧ Hid (Below w.heap.size w wr))
 case atStart => exact ⟨0, by omega, rfl, hidI (fun j h => by omega), hidI (Below.refl _ _)⟩
 case round =>
  obtain ⟨k, hk, rfl, hp, hb⟩ := hrel
  by_cases hlt : k < n
  · have hki : (k : Int) < (n : Int) := by omega
    obtain ⟨b, off, rfl, hbl, c0, c1, c2⟩ := ReadE.at3 (h.out.below hb.out) k (by have := hn.out; omega)
    obtain ⟨f, hf⟩ := exq ((F.getD k e0).1)
    obtain ⟨l, hll⟩ := exq ((F.getD k e0).2.1)
    obtain ⟨t, ht⟩ := exq ((F.getD k e0).2.2)
    rw [← hf] at c0
    rw [← hll] at c1
    rw [← ht] at c2
    have hcall := pathEq_any wr f l t v B (below_cell hB hb.out hBl)
    by_cases hfv : f = v
    · have hq : (f == v) = true := by rw [beq_iff_eq]; exact hfv
      rw [hq] at hcall
      have hnow := hidI (show (F.getD k e0).1 = v by rw [← hf]; exact hfv)
      clear hq
      replace hf := hidI hf
      replace hll := hidI hll
      replace ht := hidI ht
      replace hfv := hidI hfv
      replace hk := hidI hk
      go_wp2_with fail
      refine hcall.mono ?_
      rintro e w3 ⟨rfl, hb3⟩
      have hbz := hb.out.trans (hb3.mono hb.out.size)
      clear hcall
      go_wp2
      go_ret
      exact ⟨hbz, .inl ⟨k, by have := hn.out; omega, rfl, hnow.out, hp.out⟩⟩
    · have hq : (f == v) = false := by rw [beq_eq_false_iff_ne]; exact hfv
      rw [hq] at hcall
      have hnx : ∀ j, j < k + 1 → (F.getD j e0).1 ≠ v := by
       intro j hj
       by_cases hjk : j = k
       · subst hjk; rw [← hf]; exact hfv
       · exact hp.out j (by omega)
      clear hq
      replace hnx := hidI hnx
      replace hf := hidI hf
      replace hll := hidI hll
      replace ht := hidI ht
      replace hfv := hidI hfv
      replace hk := hidI hk
      go_wp2_with fail
      refine hcall.mono ?_
      rintro e w3 ⟨rfl, hb3⟩
      have hbz := hidI (hb.out.trans (hb3.mono hb.out.size))
      clear hcall hb3
      go_wp2
      go_roundg (n - (k + 1))
      case rel => exact ⟨k + 1, by have := hk.out; omega, by go_num, hnx, hbz⟩
      case measure => have := hk.out; omega
  · obtain rfl : k = n := by omega
    have hki : ¬ (k : Int) < (k : Int) := by omega
    replace hk := hidI hk
    go_wp2
    go_ret
    exact ⟨hb.out, .inr ⟨rfl, by rw [← hn.out]; exact hp.out⟩⟩
theorem setCells_block {b : Nat} {T : TypeId} : ∀ (vs : List Value) (o : Nat) (w : World) (cur : Array Value), w.heap[b]? = some (.cells cur T (0, 0)) → ∃ cur' : Array Value, (w.setCells b o vs).heap[b]? = some (.cells cur' T (0, 0)) ∧ cur'.size = cur.size := by
 intro vs
 induction vs with
 | nil => intro o w cur h; exact ⟨cur, h, rfl⟩
 | cons v vs ih =>
  intro o w cur h
  obtain ⟨cur', h1, h2⟩ := ih (o + 1) (w.setCell ⟨b, o, none⟩ v) _ (heap_setCell_same w b o cur T v h)
  exact ⟨cur', h1, by simpa using h2⟩
theorem below_setCells {b B : Nat} : ∀ (vs : List Value) (o : Nat) (w0 w : World), Below B w0 w → B ≤ b → Below B w0 (w.setCells b o vs) := by
 intro vs
 induction vs with
 | nil => intro o w0 w h _; exact h
 | cons v vs ih => intro o w0 w h hb; exact ih (o + 1) w0 _ (h.setCell (p := ⟨b, o, none⟩) hb v) hb
theorem owns_of_cells {w : World} {base g cap : Nat} {cur : Array Value} {zs : List Int} (hg : base ≤ g) (hh : w.heap[g]? = some (.cells cur 3 (0, 0))) (hc1 : zs.length ≤ cap) (hc2 : cap ≤ maxLen) (hc3 : cur.size = cap * 1)
 (hc : ∀ i, i < zs.length → cur[i]? = some (.int .i64 (zs.getD i 0))) : OwnsI w base (.slice (some ⟨g, 0, none⟩) zs.length cap) zs := by
 refine ⟨by rw [List.length_map, Nat.mul_one], .inr ⟨g, cap, cur, rfl, hg, hh, hc1, hc2, hc3, ?_⟩⟩
 apply List.ext_getElem?
 intro i
 rw [List.getElem?_take, List.getElem?_map]
 by_cases hi : i < zs.length * 1
 · rw [if_pos hi, Array.getElem?_toList, hc i (by omega), List.getD_eq_getElem?_getD, List.getElem?_eq_getElem (by omega)]; rfl
 · rw [if_neg hi, List.getElem?_eq_none (by omega)]; rfl
theorem rev_any (w : World) (base : Nat) (v : Value) (zs : List Int) (h : OwnsI w base v zs) (hl : zs.length ≤ 100000) :
 Calls Tryz.prog 126 #[v] w (fun e w' => e = .returned (.tuple #[]) ∧ OwnsI w' base v zs.reverse ∧ Below base w w') := by
 have hrow := OwnsI.row h (by omega)
 have hlt := World.ownsRow.lt h
 have h00 := h
 obtain ⟨hl1, ⟨rfl, h0⟩ | ⟨g, cap, cur, rfl, hg, hh, hc1, hc2, hc3, hc4⟩⟩ := h
 · have hz : zs = [] := List.length_eq_zero_iff.1 h0
   subst hz
   refine (Tryz.slices_Reverse_int_empty none 0 w).mono ?_
   rintro e w' ⟨rfl, rfl⟩
   exact ⟨rfl, h00, Below.refl _ _⟩
 · obtain ⟨_, ⟨h1, _⟩ | ⟨g', off', cap', cur', hv, hlo, hhi, hcap, hh', hcell⟩⟩ := hrow
   · cases h1
   simp only [Value.slice.injEq, Option.some.injEq, Addr.mk.injEq, and_true] at hv
   obtain ⟨⟨rfl, rfl⟩, _, rfl⟩ := hv
   rw [hh] at hh'
   simp only [Option.some.injEq, Obj.cells.injEq, and_true] at hh'
   subst hh'
   refine (Tryz.slices_Reverse_int_cells g 0 zs.length cap zs w (Nat.le_refl _) (by omega) (fun j hj => by rw [World.cell?, hh]; exact hcell j hj) (fun j hj => frozen_of_row w g _ cur _ hh)).mono ?_
   rintro e w' ⟨rfl, q, rfl⟩
   rw [List.take_length]
   obtain ⟨cur2, k1, k2⟩ := setCells_block (T := 3) (zs.reverse.map (Value.int .i64)) 0 (w.drewN q) cur hh
   refine ⟨rfl, ?_, below_setCells _ 0 w _ (below_dn (Below.refl base w) q) hg⟩
   have hfin := owns_of_cells (zs := zs.reverse) hg k1 (by rw [List.length_reverse]; exact hc1) hc2 (by rw [k2]; exact hc3) (fun i hi => ?_)
   · rw [List.length_reverse] at hfin; exact hfin
   rw [List.length_reverse] at hi
   have hin := World.cell?_setCells_in g (zs.reverse.map (Value.int .i64)) 0 (w.drewN q) (fun j hj => by
    have hj' : j < zs.length := by simpa using hj
    have : (w.drewN q).cell? ⟨g, 0 + j, none⟩ = some (.int .i64 (zs.getD j 0)) := by
     show w.cell? ⟨g, 0 + j, none⟩ = _
     rw [World.cell?, hh]; exact hcell j hj'
    rw [this]; rfl) i (by simpa using hi)
   have hc := cell_of_heap k1 (0 + i)
   rw [hin, Nat.zero_add] at hc
   rw [← hc]
   simp [List.getD_eq_getElem?_getD, hi]
theorem LwIndex.ar {w w' : World} {S : List Ar} {v : Int} {e : Ending} (h : LwIndex w (S.map (·.1)) v e w') : Below w.heap.size w w' ∧ ((e = .returned (.int .i64 (placeA S v)) ∧ v ∈ vts S) ∨ (e = .returned (.int .i64 (-1)) ∧ v ∉ vts S)) := by
 obtain ⟨hb, ⟨k, hk, he, hv, hf⟩ | ⟨he, hf⟩⟩ := h
 · refine ⟨hb, .inl ?_⟩
   rw [List.length_map] at hk
   have := placeA_is (S := S) (v := v) hk (by rw [← getD_map1]; exact hv) (fun i hi => by rw [← getD_map1]; exact hf i hi)
   rw [this.2]
   exact ⟨he, this.1⟩
 · refine ⟨hb, .inr ⟨he, fun hm => ?_⟩⟩
   obtain ⟨j, hj, hv⟩ := mem_vts.1 hm
   exact hf j (by rw [List.length_map]; exact hj) (by rw [getD_map1]; exact hv)
set_option maxRecDepth 100000 in
set_option maxHeartbeats 6400000 in
theorem wordTo_any (w : World) (s : Nat) (u : Int) (vF : Value) (S : List Ar) (y : Int) (h : ReadE w.heap.size w vF (S.map (·.1))) (hgood : GoodA s u S) (hl40 : S.length ≤ 40) :
 Calls Tryz.prog 95 #[vF, .int .i64 y] w (LwIntsBoolO w (wdA S y) (decide (y ∈ vts S))) := by
 obtain ⟨aF, capF, rfl, hnc⟩ := h.form
 rw [List.length_map] at hnc
 have hlm : (S.map (·.1)).length = S.length := List.length_map _
 rw [hlm] at h ⊢
 obtain ⟨w1, hw1⟩ := exq (w.alloc (.cells #[.int .i64 y] 3))
 have hb1 : Below w.heap.size w w1 := by rw [hw1]; exact (Below.refl _ _).alloc (Nat.le_refl _) _
 have cy : w1.cell? ⟨w.heap.size, 0, none⟩ = some (.int .i64 y) := by
  have := heap_alloc_new w (.cells #[.int .i64 y] 3)
  rw [← hw1] at this
  simpa using cell_of_heap this 0
 have hread1 := (h.below hb1).mono hb1.size
 have hcx := index_any w1 (.slice aF S.length capF) (S.map (·.1)) y w.heap.size hread1 (by rw [hlm]; omega) cy
 obtain ⟨FA, hFA⟩ := exq (wdA S y)
 obtain ⟨FT, hFT⟩ := exq (decide (y ∈ vts S))
 rw [← hFA, ← hFT]
 have hno : y ∉ vts S → ∀ W : World, Below w.heap.size w W → LwIntsBoolO w FA FT (.returned (.tuple #[.slice none 0 0, .bool false])) W := fun h W hW => by
  rw [hFA, hFT]; unfold wdA; rw [if_neg h, decide_eq_false h]
  exact ⟨_, rfl, World.ownsRow_nil _ _ _ _, hW⟩
 have hyes : y ∈ vts S → FT = true ∧ FA = (S.getD (placeA S y) d0).2 := fun h => by
  rw [hFA, hFT]; unfold wdA; rw [if_pos h, decide_eq_true h]; exact ⟨rfl, rfl⟩
 replace hno := hidI hno
 replace hyes := hidI hyes
 replace hFA := hidI hFA
 replace hFT := hidI hFT
 replace hlm := hidI hlm
 replace h := hidI h
 replace hgood := hidI hgood
 replace hread1 := hidI hread1
 have hw1' := hidI hw1.symm
 replace hw1 := hidI hw1
 go_enter Tryz.func95, Tryz.ntmps95
 go_upto_region 1 with fail
 rw [hw1'.out]
 go_wp2_with fail
 refine hcx.mono ?_
 intro e w5 hpost
 obtain ⟨hb5, hcase⟩ := hpost.ar
 clear hcx hpost cy
 have hb15 := hidI (hb1.trans (hb5.mono hb1.size))
 have hrd5 := hidI ((hread1.out.below hb5).mono hb5.size)
 clear hb5
 rcases hcase with ⟨rfl, hin⟩ | ⟨rfl, hin⟩
 case inr =>
  have hfin := hidI (hno.out hin w5 hb15.out)
  replace hin := hidI hin
  go_wp2
  go_ret2
  exact hfin.out
 obtain ⟨hT, hA⟩ := hyes.out hin
 obtain ⟨k, hk⟩ := exq (placeA S y)
 have hkl := (placeA_lt hin).1
 rw [← hk] at hA hkl ⊢
 have hwl := hgood.out.wlen k hkl
 rw [← hA] at hwl
 replace hT := hidI hT
 replace hA := hidI hA
 replace hk := hidI hk
 replace hin := hidI hin
 have hown0 := hidI (show OwnsI w5 w5.heap.size (.slice none 0 0) [] from World.ownsRow_nil _ _ _ _)
 have hbr := hidI (Below.refl w5.heap.size w5)
 have hk0 : ¬ (k : Int) < 0 := by omega
 go_wp2
 go_loopg [6, 7] k (fun g i o wr => ∃ (q : Nat) (zs : List Int), q ≤ g ∧ i = .int .i64 (q : Int) ∧ Hid (q < S.length ∧ FA = (S.getD q d0).2 ++ zs.reverse) ∧ Hid (OwnsI wr w5.heap.size o zs) ∧ Hid (Below w5.heap.size w5 wr))
 case atStart => exact ⟨k, [], Nat.le_refl _, rfl, hidI ⟨hkl, by rw [hA.out]; simp⟩, hown0, hbr⟩
 case round =>
  clear hown0 hbr
  obtain ⟨g, zs, hgg, rfl, hrel2, hown, hb⟩ := hrel
  obtain ⟨hgl, hFAe⟩ := hrel2.out
  have hzl : zs.length ≤ 40 := by
   have := congrArg List.length hFAe
   rw [List.length_append, List.length_reverse] at this
   omega
  obtain ⟨a12, m12, c12, rfl⟩ : ∃ a m c, u7 = Value.slice a m c := by
   obtain ⟨_, ⟨h1, _⟩ | ⟨g, cap, cur, h1, _⟩⟩ := hown.out <;> exact ⟨_, _, _, h1⟩
  rcases Nat.eq_zero_or_pos g with h0 | h0
  · subst h0
    have h0i : ¬ ((0 : Nat) : Int) > 0 := by omega
    rw [hgood.out.zero] at hFAe
    have hFz : zs.reverse = FA := by rw [hFAe]; rfl
    have hcr := rev_any wr w5.heap.size (.slice a12 m12 c12) zs hown.out (by omega)
    rw [hFz] at hcr
    replace hFAe := hidI hFAe
    replace hFz := hidI hFz
    replace hrel2 := hidI hrel2
    go_wp2_with fail
    refine hcr.mono ?_
    rintro e w6 ⟨rfl, hrow6, hb6⟩
    have hr : LwIntsBoolO w FA FT (.returned (.tuple #[.slice a12 m12 c12, .bool true])) w6 := by
     rw [hT.out]
     exact ⟨_, rfl, hrow6.mono hb15.out.size, hb15.out.trans ((hb.out.trans hb6).mono hb15.out.size)⟩
    replace hr := hidI hr
    clear hcr hrow6 hb6
    go_wp2
    go_ret2
    exact hr.out
  · have h0i : ((g : Nat) : Int) > 0 := by omega
    obtain ⟨q, hq, hbef, hword⟩ := hgood.out.back g h0 hgl
    obtain ⟨bF, oF, rfl, hBF, c0, c1, c2⟩ := ReadE.at3 (hrd5.out.below hb.out) g (by rw [List.length_map]; exact hgl)
    rw [getD_map1] at c0 c1 c2
    rw [hbef] at c2
    obtain ⟨l, hll⟩ := exq ((S.getD g d0).1.2.1)
    rw [← hll] at c1 hword
    have hgi : (g : Int) < (S.length : Int) := by omega
    have hnx : FA = (S.getD q d0).2 ++ (zs ++ [l]).reverse := by rw [hFAe, hword]; simp
    obtain ⟨mS, hmS⟩ := exq S.length
    have hql : q < S.length := by omega
    have hnx2 := hidI (And.intro hql hnx)
    replace hFAe := hidI hFAe
    replace hword := hidI hword
    replace hnx := hidI hnx
    replace hll := hidI hll
    replace hbef := hidI hbef
    replace hrel2 := hidI hrel2
    clear c0
    go_wp2_with (at_builtin; go_must (refine wpList_pushI rfl _ _ rfl w5.heap.size _ zs _ rfl rfl (by exact hown.out) (by omega) hb.out.size ?_))
    intro v' w' hown' hb'
    have cb := below_cell c2 hb' hBF
    replace hown' := hidI hown'
    replace hb' := hidI (hb.out.trans hb')
    clear hown hb c1
    go_wp2
    go_roundg q
    case rel => exact ⟨q, _, Nat.le_refl _, rfl, hnx2, hown', hb'⟩
    case measure => omega
set_option maxRecDepth 100000 in
set_option maxHeartbeats 6400000 in
theorem progPathO (w : World) (r s : Int) (v : Value) (es : List Ed) (x y : Int) (h : ReadE w.heap.size w v es) (hl : es.length ≤ 10000000) :
 Calls Tryz.prog 57 #[.agg #[.int .i64 r, .int .i64 s, v], .int .i64 x, .int .i64 y] w (LwIntsBoolO w (pathA r s es x y) (pathT r s es x y)) := by
 obtain ⟨a, cap, rfl, hnc⟩ := h.form
 obtain ⟨n, hn⟩ := exq es.length
 rw [← hn] at hl hnc ⊢
 rw [← hn] at h
 obtain ⟨w1, hw1⟩ := exq (w.alloc (.cells #[.int .i64 r, .int .i64 s, .slice a n cap] 26))
 have hb1 : Below w.heap.size w w1 := by rw [hw1]; exact (Below.refl _ _).alloc (Nat.le_refl _) _
 have hs1 : w1.heap.size = w.heap.size + 1 := by rw [hw1]; simp
 obtain ⟨g0, g1, g2⟩ := box3 hw1
 have hcf := folded_any w1 r s (.slice a n cap) es ((h.below hb1).mono hb1.size) (by omega)
 obtain ⟨FA, hFA⟩ := exq (pathA r s es x y)
 obtain ⟨FT, hFT⟩ := exq (pathT r s es x y)
 rw [← hFA, ← hFT]
 have hno : FT = false → ∀ W : World, Below w.heap.size w W → LwIntsBoolO w FA FT (.returned (.tuple #[.slice none 0 0, .bool false])) W := fun h W hW => by
  have h2 : FA = [] := by rw [hFA]; unfold pathA; rw [← hFT, h]; rfl
  rw [h, h2]
  exact ⟨_, rfl, World.ownsRow_nil _ _ _ _, hW⟩
 have hF0 : okPath r s es x y = false → FT = false := fun h => by rw [hFT]; unfold pathT; rw [h]; rfl
 have hF2 : isFo r s es = true → isVx s x = true → wdA (foundA r es x) y = FA ∧ decide (y ∈ vts (foundA r es x)) = FT := fun h1 h2 => by
  have hxv : 0 ≤ x ∧ x < s := of_decide_eq_true h2
  have hg := foundA_good h1 hxv
  by_cases hin : y ∈ vts (foundA r es x)
  · have hp := placeA_lt hin
    have hv := hg.vert _ hp.1
    rw [hp.2] at hv
    have hT : pathT r s es x y = true := by
     unfold pathT okPath
     rw [h1, h2, show isVx s y = true from decide_eq_true (by omega), decide_eq_true hin]; rfl
    refine ⟨?_, by rw [hFT, hT, decide_eq_true hin]⟩
    rw [hFA]; unfold wdA pathA; rw [if_pos hin, hT, if_pos rfl]
  · have hT : pathT r s es x y = false := by unfold pathT; rw [decide_eq_false hin, Bool.and_false]
    refine ⟨?_, by rw [hFT, hT, decide_eq_false hin]⟩
    rw [hFA]; unfold wdA pathA; rw [if_neg hin, hT]; rfl
 replace hno := hidI hno
 replace hF0 := hidI hF0
 replace hF2 := hidI hF2
 replace hFA := hidI hFA
 replace hFT := hidI hFT
 replace hn := hidI hn
 replace h := hidI h
 replace hs1 := hidI hs1
 have hw1' := hidI hw1.symm
 replace hw1 := hidI hw1
 go_enter Tryz.func57, Tryz.ntmps57
 go_upto_region 1 with fail
 rw [hw1'.out]
 go_wp2_with fail
 refine hcf.mono ?_
 rintro e w2 (⟨hf, bm, rfl, hlb, hlb2, hmap, hb2⟩ | ⟨hf, rfl, hb2⟩)
 case inr =>
  clear hcf
  have hfin := hidI (hno.out (hF0.out (by unfold okPath; rw [hf]; rfl)) w2 (hb1.trans (hb2.mono hb1.size)))
  replace hf := hidI hf
  go_wp2
  go_ret2
  exact hfin.out
 clear hcf
 have hci := gpVertex w2 r s x a n cap
 have hlt1 : w.heap.size < w1.heap.size := by have := hs1.out; omega
 replace g0 := below_cell g0 hb2 hlt1
 replace g1 := below_cell g1 hb2 hlt1
 replace g2 := below_cell g2 hb2 hlt1
 have hb12 := hidI (hb1.trans (hb2.mono hb1.size))
 have hl2a : w.heap.size < w2.heap.size := Nat.lt_of_lt_of_le hlt1 hb2.size
 clear hb2
 by_cases hv : 0 ≤ x ∧ x < s
 case neg =>
  have hd : decide (0 ≤ x ∧ x < s) = false := decide_eq_false hv
  rw [hd] at hci
  have hfin := hidI (hno.out (hF0.out (by unfold okPath isVx; rw [hd]; simp)))
  replace hf := hidI hf
  replace hmap := hidI hmap
  replace hv := hidI hv
  go_wp2_with (go_at_call 94; refine hci.mono ?_; rintro e w3 ⟨rfl, hb3⟩)
  have hfin2 := hfin.out w3 (hb12.out.trans (hb3.mono hb12.out.size))
  replace hfin2 := hidI hfin2
  go_wp2
  go_ret2
  exact hfin2.out
 have hd : decide (0 ≤ x ∧ x < s) = true := decide_eq_true hv
 rw [hd] at hci
 have hlim := fo_lim hf
 obtain ⟨rN, rfl⟩ : ∃ k : Nat, r = (k : Int) := ⟨r.toNat, by omega⟩
 obtain ⟨sN, rfl⟩ : ∃ k : Nat, s = (k : Int) := ⟨s.toNat, by omega⟩
 obtain ⟨xN, rfl⟩ : ∃ k : Nat, x = (k : Int) := ⟨x.toNat, by omega⟩
 have hgood := foundA_good hf hv
 have hF3 := hF2.out hf hd
 obtain ⟨S, hS⟩ := exq (foundA (rN : Int) es (xN : Int))
 rw [← hS] at hgood hF3
 have hlS := hgood.length
 have hsr := fun (W : World) (hW : Below w2.heap.size w2 W) => search_any W rN sN xN bm es hf (hmap.below hW hlb2) (Nat.lt_of_lt_of_le hlb2 hW.size) (by omega)
 rw [← hS] at hsr
 have hlS40 : S.length ≤ 40 := by omega
 replace hsr := hidI hsr
 replace hS := hidI hS
 replace hF3 := hidI hF3
 replace hgood := hidI hgood
 replace hlS := hidI hlS
 replace hf := hidI hf
 replace hlim := hidI hlim
 replace hmap := hidI hmap
 replace hv := hidI hv
 go_upto_region 4 with (go_at_call 94; refine hci.mono ?_; rintro e w3 ⟨rfl, hb3⟩)
 clear hci hd
 have hcs := hsr.out w3 hb3
 replace g0 := below_cell g0 hb3 hl2a
 have hb13 := hidI (hb12.out.trans (hb3.mono hb12.out.size))
 clear g1 g2 hb3
 go_wp2_with fail
 refine hcs.mono ?_
 rintro e w4 ⟨vF, rfl, hread, hb4⟩
 clear hcs
 have hb14 := hidI (hb13.out.trans (hb4.mono hb13.out.size))
 have hcw := wordTo_any w4 _ _ vF S y hread hgood.out hlS40
 rw [hF3.out.1, hF3.out.2] at hcw
 clear g0 hb4 hread
 go_wp2_with fail
 refine hcw.mono ?_
 rintro e w5 ⟨v5, rfl, hrow5, hb5⟩
 have hr : LwIntsBoolO w FA FT (.returned (.tuple #[v5, .bool FT])) w5 := ⟨_, rfl, hrow5.mono hb14.out.size, hb14.out.trans (hb5.mono hb14.out.size)⟩
 replace hr := hidI hr
 clear hcw hrow5 hb5
 go_wp2
 go_ret2
 exact hr.out
theorem progPath (w : World) (r s : Int) (v : Value) (es : List Ed) (x y : Int) (h : ReadE w.heap.size w v es) (hl : es.length ≤ 10000000) :
 Calls Tryz.prog 57 #[.agg #[.int .i64 r, .int .i64 s, v], .int .i64 x, .int .i64 y] w (LwIntsBool w (pathA r s es x y) (pathT r s es x y)) := by
 refine (progPathO w r s v es x y h hl).mono ?_
 rintro e w' ⟨v', rfl, h1, h2⟩
 have := pathA_length r s es x y
 exact ⟨v', rfl, h1.row (by omega), h2⟩
theorem wordOf_any (w : World) (s : Nat) (u : Int) (vF : Value) (S : List Ar) (y : Int) (h : ReadE w.heap.size w vF (S.map (·.1))) (hgood : GoodA s u S) (hl40 : S.length ≤ 40) :
 Calls Tryz.prog 100 #[vF, .int .i64 y] w (IntsRetO w (wdA S y)) := by
 have hcw := wordTo_any w s u vF S y h hgood hl40
 obtain ⟨F, hF⟩ := exq (wdA S y)
 obtain ⟨T, hT⟩ := exq (decide (y ∈ vts S))
 rw [← hF, ← hT] at hcw
 rw [← hF]
 replace hF := hidI hF
 replace hT := hidI hT
 replace h := hidI h
 replace hgood := hidI hgood
 go_enter Tryz.func100, Tryz.ntmps100
 go_wp2_with fail
 refine hcw.mono ?_
 rintro e w5 ⟨v5, rfl, hrow5, hb5⟩
 have hr : IntsRetO w F (.returned v5) w5 := ⟨_, rfl, hrow5, hb5⟩
 replace hr := hidI hr
 clear hcw hrow5 hb5
 go_wp2
 go_ret
 exact hr.out
theorem progTreeWord (w : World) (r s : Int) (v : Value) (es : List Ed) (y : Int) (h : ReadE w.heap.size w v es) (hl : es.length ≤ 10000000) :
 Calls Tryz.prog 15 #[.agg #[.int .i64 r, .int .i64 s, v], .int .i64 y] w (IntsRet w (pathA r s es 0 y)) := by
 obtain ⟨a, cap, rfl, hnc⟩ := h.form
 obtain ⟨n, hn⟩ := exq es.length
 rw [← hn] at hl hnc ⊢
 rw [← hn] at h
 obtain ⟨w1, hw1⟩ := exq (w.alloc (.cells #[.int .i64 r, .int .i64 s, .slice a n cap] 26))
 have hb1 : Below w.heap.size w w1 := by rw [hw1]; exact (Below.refl _ _).alloc (Nat.le_refl _) _
 obtain ⟨g0, g1, g2⟩ := box3 hw1
 have hcw := progPath w1 r s (.slice a n cap) es 0 y ((h.below hb1).mono hb1.size) (by omega)
 obtain ⟨F, hF⟩ := exq (pathA r s es 0 y)
 obtain ⟨T, hT⟩ := exq (pathT r s es 0 y)
 rw [← hF, ← hT] at hcw
 rw [← hF]
 replace hF := hidI hF
 replace hT := hidI hT
 replace h := hidI h
 replace hn := hidI hn
 have hw1' := hidI hw1.symm
 replace hw1 := hidI hw1
 go_enter Tryz.func15, Tryz.ntmps15
 go_upto_region 1 with fail
 rw [hw1'.out]
 go_wp2_with fail
 refine hcw.mono ?_
 rintro e w5 ⟨v5, rfl, hrow5, hb5⟩
 have hr : IntsRet w F (.returned v5) w5 := ⟨_, rfl, hrow5.wide hb1.size (Nat.le_refl _), hb1.trans (hb5.mono hb1.size)⟩
 replace hr := hidI hr
 clear hcw hrow5 hb5 g0 g1 g2
 go_wp2
 go_ret
 exact hr.out
end Go.Proofs.YtgnomlcjikfdhaaGreat
