import Derived.Deep.Cut
import Derived.Test.YtpjlamnjiilgbaaGreatJ15Ba
import Derived.Test.YtpjlamnjiilgbaaGreatShelf
import Derived.Test.YtpjlamnjiilgbaaGreatJ7Ba
import Derived.Test.YtpjlamnjiilgbaaGreatJ6Ba
import Derived.Test.YtpjlamnjiilgbaaGreatSrt
namespace Go.Proofs.YtpjlamnjiilgbaaGreat
open Go.RowKit Go.Maps
set_option linter.unusedVariables false
set_option linter.unusedSimpArgs false
theorem pathEq_any (w : World) (f l t v : Int) (B : Nat) (hB : w.cell? ⟨B, 0, none⟩ = some (.int .i64 v)) :
 Calls Tryz.prog 161 #[.agg #[.int .i64 f, .int .i64 l, .int .i64 t], .pointer (some ⟨B, 0, none⟩)] w (LwBool w (f == v)) := by
 obtain ⟨w1, hw1⟩ := exq (w.alloc (.cells #[.int .i64 f, .int .i64 l, .int .i64 t] 129))
 have hb1 : Below w.heap.size w w1 := by rw [hw1]; exact (Below.refl _ _).alloc (Nat.le_refl _) _
 obtain ⟨g0, g1, g2⟩ := box3 hw1
 have hBl : B < w.heap.size := block_lt_of_cell hB
 have hB1 := below_cell hB hb1 hBl
 obtain ⟨q, hq⟩ := exq ((f == v))
 have hq' := hq.symm
 rw [← hq]
 replace hw1 := hidI hw1
 replace hq := hidI hq
 go_enter Tryz.func161, Tryz.ntmps161
 go_wp2
 rw [← hw1.out]
 try go_wp2
 go_ret
 exact ⟨ret_bool rfl, hb1⟩
def LwIndex (w : World) (F : List Ed) (v : Int) (e : Ending) (w' : World) : Prop :=
 Below w.heap.size w w' ∧ ((∃ k : Nat, k < F.length ∧ e = .returned (.int .i64 k) ∧ (F.getD k e0).1 = v ∧ ∀ j, j < k → (F.getD j e0).1 ≠ v) ∨ (e = .returned (.int .i64 (-1)) ∧ ∀ j, j < F.length → (F.getD j e0).1 ≠ v))
set_option maxHeartbeats 1600000 in
theorem index_any (w : World) (vF : Value) (F : List Ed) (v : Int) (B : Nat) (h : ReadE w.heap.size w vF F) (hl : F.length ≤ 1000) (hB : w.cell? ⟨B, 0, none⟩ = some (.int .i64 v)) :
 Calls Tryz.prog 160 #[vF, .func (.func 161) #[] #[.pointer (some ⟨B, 0, none⟩)]] w (LwIndex w F v) := by
 obtain ⟨a, cap, rfl, hnc⟩ := h.form
 obtain ⟨n, hn⟩ := exq F.length
 rw [← hn] at hl hnc ⊢
 rw [← hn] at h
 have hBl : B < w.heap.size := block_lt_of_cell hB
 replace hn := hidI hn
 replace h := hidI h
 go_enter Tryz.func160, Tryz.ntmps160
 go_wp2
 go_loopg [5, 8] n (fun g q i wr => ∃ k : Nat, k + g = n ∧ i = .int .i64 k ∧ Hid (∀ j, j < k → (F.getD j e0).1 ≠ v) ∧ Hid (Below w.heap.size w wr))
 case atStart => exact ⟨0, by omega, rfl, hidI (fun j h => by omega), hidI (Below.refl _ _)⟩
 case round =>
  obtain ⟨k, hk, rfl, hp, hb⟩ := hrel
  by_cases hlt : k < n
  · have hki : (k : Int) < (n : Int) := by omega
    obtain ⟨b, off, rfl, hbl, c0, c1, c2⟩ := ReadE.at3 (h.out.below hb.out) k (by have := hn.out; omega)
    obtain ⟨f, hf⟩ := exq ((F.getD k e0).1)
    obtain ⟨l, hll⟩ := exq ((F.getD k e0).2.1)
    obtain ⟨t, ht⟩ := exq ((F.getD k e0).2.2)
    rw [← hf] at c0
    rw [← hll] at c1
    rw [← ht] at c2
    have hcall := pathEq_any wr f l t v B (below_cell hB hb.out hBl)
    by_cases hfv : f = v
    · have hq : (f == v) = true := by rw [beq_iff_eq]; exact hfv
      rw [hq] at hcall
      have hnow := hidI (show (F.getD k e0).1 = v by rw [← hf]; exact hfv)
      clear hq
      replace hf := hidI hf
      replace hll := hidI hll
      replace ht := hidI ht
      replace hfv := hidI hfv
      replace hk := hidI hk
      go_wp2_with fail
      refine hcall.mono ?_
      rintro e w3 ⟨rfl, hb3⟩
      have hbz := hb.out.trans (hb3.mono hb.out.size)
      clear hcall
      go_wp2
      go_ret
      exact ⟨hbz, .inl ⟨k, by have := hn.out; omega, rfl, hnow.out, hp.out⟩⟩
    · have hq : (f == v) = false := by rw [beq_eq_false_iff_ne]; exact hfv
      rw [hq] at hcall
      have hnx : ∀ j, j < k + 1 → (F.getD j e0).1 ≠ v := by
       intro j hj
       by_cases hjk : j = k
       · subst hjk; rw [← hf]; exact hfv
       · exact hp.out j (by omega)
      clear hq
      replace hnx := hidI hnx
      replace hf := hidI hf
      replace hll := hidI hll
      replace ht := hidI ht
      replace hfv := hidI hfv
      replace hk := hidI hk
      go_wp2_with fail
      refine hcall.mono ?_
      rintro e w3 ⟨rfl, hb3⟩
      have hbz := hidI (hb.out.trans (hb3.mono hb.out.size))
      clear hcall hb3
      go_wp2
      go_roundg (n - (k + 1))
      case rel => exact ⟨k + 1, by have := hk.out; omega, by go_num, hnx, hbz⟩
      case measure => have := hk.out; omega
  · obtain rfl : k = n := by omega
    have hki : ¬ (k : Int) < (k : Int) := by omega
    replace hk := hidI hk
    go_wp2
    go_ret
    exact ⟨hb.out, .inr ⟨rfl, by rw [← hn.out]; exact hp.out⟩⟩
theorem setCells_block {b : Nat} {T : TypeId} : ∀ (vs : List Value) (o : Nat) (w : World) (cur : Array Value), w.heap[b]? = some (.cells cur T (0, 0)) → ∃ cur' : Array Value, (w.setCells b o vs).heap[b]? = some (.cells cur' T (0, 0)) ∧ cur'.size = cur.size := by
 intro vs
 induction vs with
 | nil => intro o w cur h; exact ⟨cur, h, rfl⟩
 | cons v vs ih =>
  intro o w cur h
  obtain ⟨cur', h1, h2⟩ := ih (o + 1) (w.setCell ⟨b, o, none⟩ v) _ (heap_setCell_same w b o cur T v h)
  exact ⟨cur', h1, by simpa using h2⟩
theorem below_setCells {b B : Nat} : ∀ (vs : List Value) (o : Nat) (w0 w : World), Below B w0 w → B ≤ b → Below B w0 (w.setCells b o vs) := by
 intro vs
 induction vs with
 | nil => intro o w0 w h _; exact h
 | cons v vs ih => intro o w0 w h hb; exact ih (o + 1) w0 _ (h.setCell (p := ⟨b, o, none⟩) hb v) hb
theorem owns_of_cells {w : World} {base g cap : Nat} {cur : Array Value} {zs : List Int} (hg : base ≤ g) (hh : w.heap[g]? = some (.cells cur 3 (0, 0))) (hc1 : zs.length ≤ cap) (hc2 : cap ≤ maxLen) (hc3 : cur.size = cap * 1)
 (hc : ∀ i, i < zs.length → cur[i]? = some (.int .i64 (zs.getD i 0))) : OwnsI w base (.slice (some ⟨g, 0, none⟩) zs.length cap) zs := by
 refine ⟨by rw [List.length_map, Nat.mul_one], .inr ⟨g, cap, cur, rfl, hg, hh, hc1, hc2, hc3, ?_⟩⟩
 apply List.ext_getElem?
 intro i
 rw [List.getElem?_take, List.getElem?_map]
 by_cases hi : i < zs.length * 1
 · rw [if_pos hi, Array.getElem?_toList, hc i (by omega), List.getD_eq_getElem?_getD, List.getElem?_eq_getElem (by omega)]; rfl
 · rw [if_neg hi, List.getElem?_eq_none (by omega)]; rfl
theorem rev_any (w : World) (base : Nat) (v : Value) (zs : List Int) (h : OwnsI w base v zs) (hl : zs.length ≤ 100000) :
 Calls Tryz.prog 162 #[v] w (fun e w' => e = .returned (.tuple #[]) ∧ OwnsI w' base v zs.reverse ∧ Below base w w') := by
 have hrow := OwnsI.row h (by omega)
 have hlt := World.ownsRow.lt h
 have h00 := h
 obtain ⟨hl1, ⟨rfl, h0⟩ | ⟨g, cap, cur, rfl, hg, hh, hc1, hc2, hc3, hc4⟩⟩ := h
 · have hz : zs = [] := List.length_eq_zero_iff.1 h0
   subst hz
   refine (Tryz.slices_Reverse_int_empty none 0 w).mono ?_
   rintro e w' ⟨rfl, rfl⟩
   exact ⟨rfl, h00, Below.refl _ _⟩
 · obtain ⟨_, ⟨h1, _⟩ | ⟨g', off', cap', cur', hv, hlo, hhi, hcap, hh', hcell⟩⟩ := hrow
   · cases h1
   simp only [Value.slice.injEq, Option.some.injEq, Addr.mk.injEq, and_true] at hv
   obtain ⟨⟨rfl, rfl⟩, _, rfl⟩ := hv
   rw [hh] at hh'
   simp only [Option.some.injEq, Obj.cells.injEq, and_true] at hh'
   subst hh'
   refine (Tryz.slices_Reverse_int_cells g 0 zs.length cap zs w (Nat.le_refl _) (by omega) (fun j hj => by rw [World.cell?, hh]; exact hcell j hj) (fun j hj => frozen_of_row w g _ cur _ hh)).mono ?_
   rintro e w' ⟨rfl, q, rfl⟩
   rw [List.take_length]
   obtain ⟨cur2, k1, k2⟩ := setCells_block (T := 3) (zs.reverse.map (Value.int .i64)) 0 (w.drewN q) cur hh
   refine ⟨rfl, ?_, below_setCells _ 0 w _ (below_dn (Below.refl base w) q) hg⟩
   have hfin := owns_of_cells (zs := zs.reverse) hg k1 (by rw [List.length_reverse]; exact hc1) hc2 (by rw [k2]; exact hc3) (fun i hi => ?_)
   · rw [List.length_reverse] at hfin; exact hfin
   rw [List.length_reverse] at hi
   have hin := World.cell?_setCells_in g (zs.reverse.map (Value.int .i64)) 0 (w.drewN q) (fun j hj => by
    have hj' : j < zs.length := by simpa using hj
    have : (w.drewN q).cell? ⟨g, 0 + j, none⟩ = some (.int .i64 (zs.getD j 0)) := by
     show w.cell? ⟨g, 0 + j, none⟩ = _
     rw [World.cell?, hh]; exact hcell j hj'
    rw [this]; rfl) i (by simpa using hi)
   have hc := cell_of_heap k1 (0 + i)
   rw [hin, Nat.zero_add] at hc
   rw [← hc]
   simp [List.getD_eq_getElem?_getD, hi]
theorem LwIndex.ar {w w' : World} {S : List Ar} {v : Int} {e : Ending} (h : LwIndex w (S.map (·.1)) v e w') : Below w.heap.size w w' ∧ ((e = .returned (.int .i64 (placeA S v)) ∧ v ∈ vts S) ∨ (e = .returned (.int .i64 (-1)) ∧ v ∉ vts S)) := by
 obtain ⟨hb, ⟨k, hk, he, hv, hf⟩ | ⟨he, hf⟩⟩ := h
 · refine ⟨hb, .inl ?_⟩
   rw [List.length_map] at hk
   have := placeA_is (S := S) (v := v) hk (by rw [← getD_map1]; exact hv) (fun i hi => by rw [← getD_map1]; exact hf i hi)
   rw [this.2]
   exact ⟨he, this.1⟩
 · refine ⟨hb, .inr ⟨he, fun hm => ?_⟩⟩
   obtain ⟨j, hj, hv⟩ := mem_vts.1 hm
   exact hf j (by rw [List.length_map]; exact hj) (by rw [getD_map1]; exact hv)
set_option maxRecDepth 100000 in
set_option maxHeartbeats 6400000 in
theorem wordTo_any (w : World) (s : Nat) (u : Int) (vF : Value) (S : List Ar) (y : Int) (h : ReadE w.heap.size w vF (S.map (·.1))) (hgood : GoodA s u S) (hl40 : S.length ≤ 40) :
 Calls Tryz.prog 130 #[vF, .int .i64 y] w (LwIntsBoolO w (wdA S y) (decide (y ∈ vts S))) := by
 obtain ⟨aF, capF, rfl, hnc⟩ := h.form
 rw [List.length_map] at hnc
 have hlm : (S.map (·.1)).length = S.length := List.length_map _
 rw [hlm] at h ⊢
 obtain ⟨w1, hw1⟩ := exq (w.alloc (.cells #[.int .i64 y] 3))
 have hb1 : Below w.heap.size w w1 := by rw [hw1]; exact (Below.refl _ _).alloc (Nat.le_refl _) _
 have cy : w1.cell? ⟨w.heap.size, 0, none⟩ = some (.int .i64 y) := by
  have := heap_alloc_new w (.cells #[.int .i64 y] 3)
  rw [← hw1] at this
  simpa using cell_of_heap this 0
 have hread1 := (h.below hb1).mono hb1.size
 have hcx := index_any w1 (.slice aF S.length capF) (S.map (·.1)) y w.heap.size hread1 (by rw [hlm]; omega) cy
 obtain ⟨FA, hFA⟩ := exq (wdA S y)
 obtain ⟨FT, hFT⟩ := exq (decide (y ∈ vts S))
 rw [← hFA, ← hFT]
 have hno : y ∉ vts S → ∀ W : World, Below w.heap.size w W → LwIntsBoolO w FA FT (.returned (.tuple #[.slice none 0 0, .bool false])) W := fun h W hW => by
  rw [hFA, hFT]; unfold wdA; rw [if_neg h, decide_eq_false h]
  exact ⟨_, rfl, World.ownsRow_nil _ _ _ _, hW⟩
 have hyes : y ∈ vts S → FT = true ∧ FA = (S.getD (placeA S y) d0).2 := fun h => by
  rw [hFA, hFT]; unfold wdA; rw [if_pos h, decide_eq_true h]; exact ⟨rfl, rfl⟩
 replace hno := hidI hno
 replace hyes := hidI hyes
 replace hFA := hidI hFA
 replace hFT := hidI hFT
 replace hlm := hidI hlm
 replace h := hidI h
 replace hgood := hidI hgood
 replace hread1 := hidI hread1
 have hw1' := hidI hw1.symm
 replace hw1 := hidI hw1
 go_enter Tryz.func130, Tryz.ntmps130
 go_upto_region 1 with fail
 rw [hw1'.out]
 go_wp2_with fail
 refine hcx.mono ?_
 intro e w5 hpost
 obtain ⟨hb5, hcase⟩ := hpost.ar
 clear hcx hpost cy
 have hb15 := hidI (hb1.trans (hb5.mono hb1.size))
 have hrd5 := hidI ((hread1.out.below hb5).mono hb5.size)
 clear hb5
 rcases hcase with ⟨rfl, hin⟩ | ⟨rfl, hin⟩
 case inr =>
  have hfin := hidI (hno.out hin w5 hb15.out)
  replace hin := hidI hin
  go_wp2
  go_ret2
  exact hfin.out
 obtain ⟨hT, hA⟩ := hyes.out hin
 obtain ⟨k, hk⟩ := exq (placeA S y)
 have hkl := (placeA_lt hin).1
 rw [← hk] at hA hkl ⊢
 have hwl := hgood.out.wlen k hkl
 rw [← hA] at hwl
 replace hT := hidI hT
 replace hA := hidI hA
 replace hk := hidI hk
 replace hin := hidI hin
 have hown0 := hidI (show OwnsI w5 w5.heap.size (.slice none 0 0) [] from World.ownsRow_nil _ _ _ _)
 have hbr := hidI (Below.refl w5.heap.size w5)
 have hk0 : ¬ (k : Int) < 0 := by omega
 go_wp2
 go_loopg [6, 7] k (fun g i o wr => ∃ (q : Nat) (zs : List Int), q ≤ g ∧ i = .int .i64 (q : Int) ∧ Hid (q < S.length ∧ FA = (S.getD q d0).2 ++ zs.reverse) ∧ Hid (OwnsI wr w5.heap.size o zs) ∧ Hid (Below w5.heap.size w5 wr))
 case atStart => exact ⟨k, [], Nat.le_refl _, rfl, hidI ⟨hkl, by rw [hA.out]; simp⟩, hown0, hbr⟩
 case round =>
  clear hown0 hbr
  obtain ⟨g, zs, hgg, rfl, hrel2, hown, hb⟩ := hrel
  obtain ⟨hgl, hFAe⟩ := hrel2.out
  have hzl : zs.length ≤ 40 := by
   have := congrArg List.length hFAe
   rw [List.length_append, List.length_reverse] at this
   omega
  obtain ⟨a12, m12, c12, rfl⟩ : ∃ a m c, u7 = Value.slice a m c := by
   obtain ⟨_, ⟨h1, _⟩ | ⟨g, cap, cur, h1, _⟩⟩ := hown.out <;> exact ⟨_, _, _, h1⟩
  rcases Nat.eq_zero_or_pos g with h0 | h0
  · subst h0
    have h0i : ¬ ((0 : Nat) : Int) > 0 := by omega
    rw [hgood.out.zero] at hFAe
    have hFz : zs.reverse = FA := by rw [hFAe]; rfl
    have hcr := rev_any wr w5.heap.size (.slice a12 m12 c12) zs hown.out (by omega)
    rw [hFz] at hcr
    replace hFAe := hidI hFAe
    replace hFz := hidI hFz
    replace hrel2 := hidI hrel2
    go_wp2_with fail
    refine hcr.mono ?_
    rintro e w6 ⟨rfl, hrow6, hb6⟩
    have hr : LwIntsBoolO w FA FT (.returned (.tuple #[.slice a12 m12 c12, .bool true])) w6 := by
     rw [hT.out]
     exact ⟨_, rfl, hrow6.mono hb15.out.size, hb15.out.trans ((hb.out.trans hb6).mono hb15.out.size)⟩
    replace hr := hidI hr
    clear hcr hrow6 hb6
    go_wp2
    go_ret2
    exact hr.out
  · have h0i : ((g : Nat) : Int) > 0 := by omega
    obtain ⟨q, hq, hbef, hword⟩ := hgood.out.back g h0 hgl
    obtain ⟨bF, oF, rfl, hBF, c0, c1, c2⟩ := ReadE.at3 (hrd5.out.below hb.out) g (by rw [List.length_map]; exact hgl)
    rw [getD_map1] at c0 c1 c2
    rw [hbef] at c2
    obtain ⟨l, hll⟩ := exq ((S.getD g d0).1.2.1)
    rw [← hll] at c1 hword
    have hgi : (g : Int) < (S.length : Int) := by omega
    have hnx : FA = (S.getD q d0).2 ++ (zs ++ [l]).reverse := by rw [hFAe, hword]; simp
    obtain ⟨mS, hmS⟩ := exq S.length
    have hql : q < S.length := by omega
    have hnx2 := hidI (And.intro hql hnx)
    replace hFAe := hidI hFAe
    replace hword := hidI hword
    replace hnx := hidI hnx
    replace hll := hidI hll
    replace hbef := hidI hbef
    replace hrel2 := hidI hrel2
    clear c0
    go_wp2_with (at_builtin; go_must (refine wpList_pushI rfl _ _ rfl w5.heap.size _ zs _ rfl rfl (by exact hown.out) (by omega) hb.out.size ?_))
    intro v' w' hown' hb'
    have cb := below_cell c2 hb' hBF
    replace hown' := hidI hown'
    replace hb' := hidI (hb.out.trans hb')
    clear hown hb c1
    go_wp2
    go_roundg q
    case rel => exact ⟨q, _, Nat.le_refl _, rfl, hnx2, hown', hb'⟩
    case measure => omega
theorem wordOf_any (w : World) (s : Nat) (u : Int) (vF : Value) (S : List Ar) (y : Int) (h : ReadE w.heap.size w vF (S.map (·.1))) (hgood : GoodA s u S) (hl40 : S.length ≤ 40) :
 Calls Tryz.prog 97 #[vF, .int .i64 y] w (IntsRetO w (wdA S y)) := by
 have hcw := wordTo_any w s u vF S y h hgood hl40
 obtain ⟨F, hF⟩ := exq (wdA S y)
 obtain ⟨T, hT⟩ := exq (decide (y ∈ vts S))
 rw [← hF, ← hT] at hcw
 rw [← hF]
 replace hF := hidI hF
 replace hT := hidI hT
 replace h := hidI h
 replace hgood := hidI hgood
 go_enter Tryz.func97, Tryz.ntmps97
 go_wp2_with fail
 refine hcw.mono ?_
 rintro e w5 ⟨v5, rfl, hrow5, hb5⟩
 have hr : IntsRetO w F (.returned v5) w5 := ⟨_, rfl, hrow5, hb5⟩
 replace hr := hidI hr
 clear hcw hrow5 hb5
 go_wp2
 go_ret
 exact hr.out
end Go.Proofs.YtpjlamnjiilgbaaGreat
namespace Go.Proofs.YtpjlamnjiilgbaaGreat
open Go.RowKit
set_option linter.unusedVariables false
set_option linter.unusedSimpArgs false
def GrewInt (w : World) (n : Int) (e : Ending) (w' : World) : Prop := e = .returned (.int .i64 n) ∧ ∃ q os', w' = Go.Sort.grow (w.drewN q) os'
set_option maxRecDepth 100000 in
set_option maxHeartbeats 1600000 in
theorem progCmpG (w : World) (f l t f' l' t' : Int) :
 Calls Tryz.prog 127 #[.agg #[.int .i64 f, .int .i64 l, .int .i64 t], .agg #[.int .i64 f', .int .i64 l', .int .i64 t']] w (GrewInt w (cmpE (f, l, t) (f', l', t'))) := by
 obtain ⟨c, hc⟩ := exq (cmpE (f, l, t) (f', l', t'))
 have hor := cmpE_or f l t f' l' t'
 rw [← hc] at hor ⊢
 obtain ⟨w1, hw1⟩ := exq ((w.alloc (.cells #[.int .i64 f, .int .i64 l, .int .i64 t] 72)).alloc (.cells #[.int .i64 f', .int .i64 l', .int .i64 t'] 72))
 have e1 : w1 = Go.Sort.grow w #[.cells #[.int .i64 f, .int .i64 l, .int .i64 t] 72, .cells #[.int .i64 f', .int .i64 l', .int .i64 t'] 72] := by rw [hw1, Go.Sort.alloc_eq_grow, Go.Sort.alloc_eq_grow, Go.Sort.grow_grow]; rfl
 replace e1 := hidI e1
 have hb1 : Below w.heap.size w w1 := by rw [hw1]; exact ((Below.refl _ _).alloc (Nat.le_refl _) _).alloc (by simp) _
 have hg := heap_box w (.cells #[.int .i64 f, .int .i64 l, .int .i64 t] 72) (.cells #[.int .i64 f', .int .i64 l', .int .i64 t'] 72)
 have hh := heap_alloc_new (w.alloc (.cells #[.int .i64 f, .int .i64 l, .int .i64 t] 72)) (.cells #[.int .i64 f', .int .i64 l', .int .i64 t'] 72)
 rw [← hw1] at hg hh
 rw [show (w.alloc (.cells #[.int .i64 f, .int .i64 l, .int .i64 t] 72)).heap.size = w.heap.size + 1 by simp] at hh
 obtain ⟨g0, g1, g2⟩ := cell3 hg
 obtain ⟨k0, k1, k2⟩ := cell3 hh
 simp at g0 g1 g2 k0 k1 k2
 obtain ⟨x, hx⟩ := exq (sgnI f f')
 obtain ⟨y, hy⟩ := exq (sgnI l l')
 obtain ⟨z, hz⟩ := exq (sgnI t t')
 have y1 := fun W => gpCmp W f f'
 have y2 := fun W => gpCmp W l l'
 have y3 := fun W => gpCmp W t t'
 rw [← hx, ← hy, ← hz] at hor
 rw [← hx] at y1
 rw [← hy] at y2
 rw [← hz] at y3
 replace hc := hidI hc
 replace hw1 := hidI hw1
 replace hor := hidI hor
 replace hx := hidI hx
 replace hy := hidI hy
 replace hz := hidI hz
 clear hg hh
 go_enter Tryz.func127, Tryz.ntmps127
 go_wp2
 rw [← hw1.out]
 refine wp_region_still_tail 15 (by kernel_rfl) (by kernel_rfl) ?_
 simp only [List.take_succ_cons, List.take_zero, List.drop_succ_cons, List.drop_zero]
 repeat still_step
 still_call (y1 _)
 repeat still_step
 still_call (y2 _)
 repeat still_step
 still_call (y3 _)
 refine wpStill_nil ?_
 change wpList _ _ _ _ _ w1.drew
 obtain ⟨w2, hw2⟩ := exq w1.drew
 rw [← hw2]
 have hb2 : Below w.heap.size w w2 := by rw [hw2]; exact below_dn hb1 1
 obtain ⟨w3, hw3⟩ := exq (w2.alloc (.cells #[.int .i64 x, .int .i64 y, .int .i64 z] 3))
 have hb3 : Below w.heap.size w w3 := by rw [hw3]; exact hb2.alloc hb2.size _
 have hh3 := heap_alloc_new w2 (.cells #[.int .i64 x, .int .i64 y, .int .i64 z] 3)
 rw [← hw3] at hh3
 have hcall := or3_any w3 w2.heap.size x y z (by
  intro k hk
  have hk3 : k = 0 ∨ k = 1 ∨ k = 2 := by omega
  have h2 := cell_of_heap hh3 k
  simp at h2
  rcases hk3 with rfl | rfl | rfl <;> simpa [nth3] using h2)
 have e2 : w2 = Go.Sort.grow (w.drewN 1) #[.cells #[.int .i64 f, .int .i64 l, .int .i64 t] 72, .cells #[.int .i64 f', .int .i64 l', .int .i64 t'] 72] := by rw [hw2, e1.out]; rfl
 have hgr : ∃ q os', w3 = Go.Sort.grow (w.drewN q) os' := ⟨1, _, by rw [hw3, e2, Go.Sort.alloc_eq_grow, Go.Sort.grow_grow]⟩
 replace hgr := hidI hgr
 clear e2
 replace hw2 := hidI hw2
 replace hw3 := hidI hw3
 clear hh3 g0 g1 g2 k0 k1 k2 y1 y2 y3
 go_wp2_with fail
 rw [← hw3.out]
 refine hcall.mono ?_
 rintro e w4 ⟨rfl, rfl⟩
 go_wp2
 go_ret
 exact ⟨ret_i hor.out.symm, hgr.out⟩
def encE (x : Ed) : List Value := [.int .i64 x.1, .int .i64 x.2.1, .int .i64 x.2.2]
theorem swoE : Go.Sort.SWO (ltOf cmpE) where
 irrefl x := by unfold ltOf; rw [cmpE_self]; rfl
 trans x y z h1 h2 := by unfold ltOf at *; simp only [decide_eq_true_eq] at *; exact cmpE_trans h1 h2
 ntrans x y z h1 h2 := by
  unfold ltOf at *
  simp only [decide_eq_false_iff_not] at *
  have n1 := cmpE_neg x y
  have n2 := cmpE_neg y z
  have n3 := cmpE_neg x z
  rcases cmpE_cases x y with c | c | c
  · omega
  · have := cmpE_zero c; subst this; exact h2
  · rcases cmpE_cases y z with d | d | d
    · omega
    · have := cmpE_zero d; subst this; omega
    · have := cmpE_trans (a := z) (b := y) (c := x) (by omega) (by omega)
      omega
theorem arr_at {es : List Ed} {i : Nat} (h : i < es.length) : (es.toArray)[i]! = es.getD i e0 := by
 rw [getElem!_pos _ i (by simpa using h), List.getD_eq_getElem?_getD, List.getElem?_eq_getElem h]
 rfl
theorem flat_at {es : List Ed} {k : Nat} (h : k < es.length * 3) : (encE ((es.toArray)[k / 3]!))[k % 3]! = iv ((flatE es).getD k 0) := by
 obtain ⟨i, j, hj, rfl⟩ : ∃ i j, j < 3 ∧ k = i * 3 + j := ⟨k / 3, k % 3, Nat.mod_lt _ (by omega), by omega⟩
 have hi : i < es.length := by omega
 rw [show (i * 3 + j) / 3 = i by omega, show (i * 3 + j) % 3 = j by omega, arr_at hi]
 obtain ⟨g0, g1, g2⟩ := flatE_at es i hi
 have hj3 : j = 0 ∨ j = 1 ∨ j = 2 := by omega
 rcases hj3 with rfl | rfl | rfl
 · rw [Nat.add_zero, g0]; rfl
 · rw [g1]; rfl
 · rw [g2]; rfl
theorem flatK_E {es : List Ed} {k : Nat} (h : k < es.length * 3) : (Go.Sort.flatK encE 3 es.toArray)[k]! = iv ((flatE es).getD k 0) := by
 rw [Go.Sort.get_flatK encE 3 es.toArray k (by simpa using h)]
 exact flat_at h
def SortRet (w : World) (base g cap : Nat) (es : List Ed) (e : Ending) (w' : World) : Prop :=
 e = .returned (.tuple #[]) ∧ w.grownBy w' (some g) ∧ ∃ ds : List Ed, ds.Perm es ∧ ds.Pairwise (fun a b => ¬ cmpE b a < 0) ∧ OwnsE w' base (.slice (some ⟨g, 0, none⟩) es.length cap) ds
set_option maxHeartbeats 1600000 in
theorem sortE_any (w : World) (base g cap : Nat) (es : List Ed) (hown : OwnsE w base (.slice (some ⟨g, 0, none⟩) es.length cap) es) (hl : es.length ≤ 100000) :
 Calls Tryz.prog 126 #[.slice (some ⟨g, 0, none⟩) es.length cap, .func (.func 127) #[] #[]] w (SortRet w base g cap es) := by
 have hblk := (World.ownsRow.lt hown g rfl).2
 have eg : ∀ args w, (callFunc 127 args).run Tryz.prog w = .ok (.enter 127 args) w := enters_of Tryz.func127 (by kernel_rfl) rfl
 have hcmp : CmpLays Tryz.prog 127 #[] encE 3 cmpE g 0 es.toArray.size w := fun _ _ _ _ x y => progCmpG _ x.1 x.2.1 x.2.2 y.1 y.2.1 y.2.2
 have hH : Go.Sort.HoldsK encE 3 w g 0 es.toArray := by
  intro j hj
  have hj' : j < es.length * 3 := by simpa using hj
  rw [Nat.zero_add]
  refine ⟨?_, World.ownsRow.frozenAt hown j⟩
  rw [World.ownsRow.cellAt hown j hj', flatK_E hj', List.getElem?_map, List.getD_eq_getElem?_getD]
  have : j < (flatE es).length := by rw [flatE_length]; exact hj'
  rw [List.getElem?_eq_getElem this]
  rfl
 have hcon := AnyQ.slices_SortFunc Tryz.sortEdge 3 Tryz.isAgg72 Tryz.sizeOf72 encE (fun _ => rfl) (fun x v hv => by
  simp [encE] at hv
  rcases hv with rfl | rfl | rfl <;> rfl) cmpE swoE 127 #[] g 0 cap es.toArray w eg hcmp hH hblk (by simp; omega)
 change Calls Tryz.prog 126 _ _ _ at hcon
 rw [show es.toArray.size = es.length by simp] at hcon
 refine hcon.mono ?_
 rintro e w' ⟨rfl, d', n, os, hp, hs, rfl⟩
 obtain ⟨hp1, hp2, hp3⟩ := hp
 have hsz : d'.size = es.length := by simpa using hp1
 have hperm : d'.toList.Perm es := by
  have h1 : (d'.extract 0 es.length).toList = d'.toList := by rw [← hsz]; simp
  have h2 : (es.toArray.extract 0 es.length).toList = es := by simp
  rw [h1, h2] at hp3
  exact hp3
 have hd : d' = d'.toList.toArray := by simp
 have hdl : d'.toList.length = es.length := by simpa using hsz
 obtain ⟨ds, hds⟩ := exq d'.toList
 rw [← hds] at hd hperm hdl
 subst hd
 have hheap : ∀ k, k < w.heap.size → (sortWorldK encE 3 w g 0 n ds.toArray os).heap[k]? = (w.heap.modify g (Go.Sort.onCells (Go.Sort.putCells id 0 (Go.Sort.flatK encE 3 ds.toArray))))[k]? := fun k hk => by
  show ((Go.Sort.mapBlock (Go.Sort.ahead w n) g _).heap ++ os)[k]? = _
  rw [Array.getElem?_append_left (by simp [Go.Sort.mapBlock, Go.Sort.ahead]; exact hk)]
  rfl
 refine ⟨rfl, ⟨rfl, rfl, rfl, ?_, fun k hk hne => ?_⟩, ds, hperm, ?_, ?_⟩
 · show w.heap.size ≤ ((Go.Sort.mapBlock (Go.Sort.ahead w n) g _).heap ++ os).size
   simp [Go.Sort.mapBlock, Go.Sort.ahead]
 · rw [hheap k hk, Array.getElem?_modify, if_neg (fun e => hne (by rw [e]))]
 · rw [List.pairwise_iff_getElem]
   intro i j hi hj hij hc
   have := hs i j (Nat.zero_le _) hij (by omega)
   unfold ltOf at this
   rw [arr_at hi, arr_at hj, List.getD_eq_getElem?_getD, List.getD_eq_getElem?_getD, List.getElem?_eq_getElem hi, List.getElem?_eq_getElem hj] at this
   simp only [Option.getD_some, decide_eq_false_iff_not] at this
   exact this hc
 · obtain ⟨h1, h2 | ⟨g', cap', cur, hv, hg, hh, hc1, hc2, hc3, hc4⟩⟩ := hown
   · cases h2.1
   · cases hv
     refine ⟨by rw [List.length_map, flatE_length, hdl], .inr ⟨g, cap, _, by rw [hdl], hg, by rw [hheap g hblk, Array.getElem?_modify, if_pos rfl, hh]; rfl, by rw [hdl]; exact hc1, hc2, by simp [Go.Sort.putCells]; exact hc3, ?_⟩⟩
     apply List.ext_getElem?
     intro k
     rw [List.getElem?_take, List.getElem?_map]
     by_cases hk : k < ds.length * 3
     · have hkc : k < cur.size := by rw [hc3]; rw [hdl] at hk; have : es.length * 3 ≤ cap * 3 := Nat.mul_le_mul_right _ hc1; omega
       have hkf : k < (flatE ds).length := by rw [flatE_length]; exact hk
       rw [if_pos hk, Array.getElem?_toList]
       unfold Go.Sort.putCells
       rw [Array.getElem?_mapIdx, Array.getElem?_eq_getElem hkc, Option.map_some, if_pos ⟨Nat.zero_le _, by simp; exact hk⟩, Nat.sub_zero, flatK_E hk, List.getD_eq_getElem?_getD, List.getElem?_eq_getElem hkf]
       rfl
     · have hkf : ¬ k < (flatE ds).length := by rw [flatE_length]; exact hk
       rw [if_neg hk, List.getElem?_eq_none (by omega)]
       rfl
end Go.Proofs.YtpjlamnjiilgbaaGreat
