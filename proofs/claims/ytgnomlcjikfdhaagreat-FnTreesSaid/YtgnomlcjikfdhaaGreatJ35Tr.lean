import Derived.Laws.StructEq
import Derived.Deep.LoopGhost
import Derived.Deep.Cut
import Derived.Test.YtgnomlcjikfdhaaGreatJ34Tr
import Derived.Test.YtgnomlcjikfdhaaGreatJ28Tr
import Derived.Test.YtgnomlcjikfdhaaGreatJ3Tr
import Derived.Test.YtgnomlcjikfdhaaGreatCtn
namespace Go.Proofs.YtgnomlcjikfdhaaGreat
open Go.RowKit Go.Maps
set_option linter.unusedVariables false
set_option linter.unusedSimpArgs false
def LwTree (w : World) (r s : Int) (es : List Ed) (e : Ending) (w' : World) : Prop :=
 (isFo r s es = true ∧ ∃ v, e = .returned (.tuple #[v, .bool true]) ∧ ReadE w'.heap.size w' v ((foundA r es 0).map (·.1)) ∧ Below w.heap.size w w') ∨ (isFo r s es = false ∧ e = .returned (.tuple #[.slice none 0 0, .bool false]) ∧ Below w.heap.size w w')
set_option maxRecDepth 100000 in
set_option maxHeartbeats 3200000 in
theorem treeIn_any (w : World) (r s : Int) (v : Value) (es : List Ed) (h : ReadE w.heap.size w v es) (hl : es.length ≤ 10000000) :
 Calls Tryz.prog 47 #[.agg #[.int .i64 r, .int .i64 s, v]] w (LwTree w r s es) := by
 obtain ⟨a, cap, rfl, hnc⟩ := h.form
 obtain ⟨n, hn⟩ := exq es.length
 rw [← hn] at hl hnc ⊢
 rw [← hn] at h
 obtain ⟨w1, hw1⟩ := exq (w.alloc (.cells #[.int .i64 r, .int .i64 s, .slice a n cap] 26))
 have hb1 : Below w.heap.size w w1 := by rw [hw1]; exact (Below.refl _ _).alloc (Nat.le_refl _) _
 have hs1 : w.heap.size < w1.heap.size := by rw [hw1]; simp
 obtain ⟨g0, g1, g2⟩ := box3 hw1
 have hcf := folded_any w1 r s (.slice a n cap) es ((h.below hb1).mono hb1.size) (by omega)
 have hno : isFo r s es = false → ∀ W : World, Below w.heap.size w W → LwTree w r s es (.returned (.tuple #[.slice none 0 0, .bool false])) W := fun h W hW => .inr ⟨h, rfl, hW⟩
 have hyes : isFo r s es = true → ∀ (W : World) (v : Value), ReadE W.heap.size W v ((foundA r es 0).map (·.1)) → Below w.heap.size w W → LwTree w r s es (.returned (.tuple #[v, .bool true])) W := fun h W v h1 h2 => .inl ⟨h, v, rfl, h1, h2⟩
 replace hno := hidI hno
 replace hyes := hidI hyes
 replace hn := hidI hn
 replace h := hidI h
 have hw1' := hidI hw1.symm
 replace hw1 := hidI hw1
 go_enter Tryz.func47, Tryz.ntmps47
 go_upto_region 1 with fail
 rw [hw1'.out]
 go_wp2_with fail
 refine hcf.mono ?_
 rintro e w2 (⟨hf, bm, rfl, hlb, hlb2, hmap, hb2⟩ | ⟨hf, rfl, hb2⟩)
 case inr =>
  clear hcf
  have hfin := hidI (hno.out hf w2 (hb1.trans (hb2.mono hb1.size)))
  replace hf := hidI hf
  go_wp2
  go_ret2
  exact hfin.out
 clear hcf
 replace g0 := below_cell g0 hb2 hs1
 have hb12 := hidI (hb1.trans (hb2.mono hb1.size))
 clear hb2 g1 g2
 have hlim := fo_lim hf
 obtain ⟨rN, rfl⟩ : ∃ k : Nat, r = (k : Int) := ⟨r.toNat, by omega⟩
 obtain ⟨sN, rfl⟩ : ∃ k : Nat, s = (k : Int) := ⟨s.toNat, by omega⟩
 have hsr := search_any w2 rN sN 0 bm es hf hmap hlb2 (by omega)
 rw [show (((0 : Nat) : Int)) = 0 from rfl] at hsr
 have hfin := hyes.out hf
 obtain ⟨F, hF⟩ := exq ((foundA (rN : Int) es 0).map (·.1))
 rw [← hF] at hsr hfin
 replace hfin := hidI hfin
 replace hF := hidI hF
 replace hf := hidI hf
 replace hmap := hidI hmap
 replace hlim := hidI hlim
 go_wp2_with fail
 refine hsr.mono ?_
 rintro e w4 ⟨vF, rfl, hread, hb4⟩
 have hr := hidI (hfin.out w4 vF hread (hb12.out.trans (hb4.mono hb12.out.size)))
 clear hsr hread hb4
 go_wp2
 go_ret2
 exact hr.out
theorem trA_take {S : List Ar} {k : Nat} (h : k + 1 < S.length) : (trA S).take (k + 1) = (trA S).take k ++ [eA S (k + 1)] := by
 have hl : k < (trA S).length := by rw [trA_length]; omega
 rw [List.take_add_one, List.getElem?_eq_getElem hl, ← trA_at h, List.getD_eq_getElem?_getD, List.getElem?_eq_getElem hl]
 rfl
set_option maxRecDepth 100000 in
set_option maxHeartbeats 6400000 in
theorem edges_any (w : World) (s : Nat) (u : Int) (vF : Value) (S : List Ar) (h : ReadE w.heap.size w vF (S.map (·.1))) (hgood : GoodA s u S) (hnd : (vts S).Nodup) (hl40 : S.length ≤ 40) :
 Calls Tryz.prog 48 #[vF] w (LwEdges w (putAll [] (trA S))) := by
 obtain ⟨aF, capF, rfl, hnc⟩ := h.form
 have hlm : (S.map (·.1)).length = S.length := List.length_map _
 rw [hlm] at h hnc ⊢
 have hpos := hgood.pos
 obtain ⟨n, hn⟩ := exq S.length
 rw [← hn] at hnc hpos hl40 h ⊢
 obtain ⟨bF, oF, rfl, hBF, -⟩ := ReadE.at3 h 0 (by rw [hlm]; omega)
 obtain ⟨F, hF⟩ := exq (putAll [] (trA S))
 rw [← hF]
 have htl := trA_length S
 rw [← hn] at htl
 have hst0 : Hid (OwnsE w w.heap.size (.slice none 0 0) ((trA S).take 0)) := hidI (OwnsS.nil _ _)
 have hp1 : 0 ≤ (1 : Int) ∧ (1 : Int) ≤ (n : Int) := by omega
 replace hn := hidI hn
 replace hlm := hidI hlm
 replace hF := hidI hF
 replace h := hidI h
 replace hgood := hidI hgood
 replace hnd := hidI hnd
 replace htl := hidI htl
 by_cases hc1 : capF = 1
 case pos =>
  obtain rfl : n = 1 := by omega
  subst hc1
  have hzF : F = [] := by
   have : trA S = [] := List.length_eq_zero_iff.1 (by rw [htl.out])
   rw [hF.out, this]; rfl
  go_enter Tryz.func48, Tryz.ntmps48
  go_wp2
  go_loopg [3, 5, 9] 0 (fun g u3_ u5_ u9_ wr => u3_ = .slice none 0 0 ∧ u9_ = .int .i64 0 ∧ Hid (wr = w))
  case atStart => exact ⟨rfl, rfl, hidI rfl⟩
  case round =>
   obtain ⟨rfl, rfl, hwr⟩ := hrel
   have hwr' := hwr.out.symm
   subst hwr'
   have hsort := sort_all w w.heap.size (.slice none 0 0) [] (OwnsS.nil _ _) (Nat.le_refl _) (by simp)
   go_wp2_with fail
   refine hsort.mono ?_
   rintro e w5 ⟨rfl, hb5, ds, hp, hs, hown5⟩
   have hds : ds = [] := List.Perm.eq_nil hp
   subst hds
   have hr := hidI (show LwEdges w F (.returned (.slice none 0 0)) w5 from hzF ▸ lwEdges_owns (OwnsS.nil _ _) hb5 (Nat.le_refl _) (by simp))
   clear hsort hp hs hown5 hb5
   replace hzF := hidI hzF
   go_wp2
   go_ret
   exact hr.out
 go_enter Tryz.func48, Tryz.ntmps48
 go_wp2
 go_loopg [3, 5, 9] (n - 1) (fun g u3_ u5_ u9_ wr => ∃ k : Nat, k + g = n - 1 ∧ u9_ = .int .i64 k ∧ Hid (OwnsE wr w.heap.size u3_ ((trA S).take k)) ∧ Hid (Below w.heap.size w wr))
 case atStart => exact ⟨0, by omega, rfl, hst0, hidI (Below.refl _ _)⟩
 case round =>
  clear hst0
  obtain ⟨k, hk, rfl, hst, hb⟩ := hrel
  have hsz := hb.out.size
  obtain ⟨ua, um, uc, rfl⟩ := OwnsS.form3 hst.out
  by_cases hlt : k < n - 1
  · have hki : (k : Int) < ((n - 1 : Nat) : Int) := by omega
    have hjl : k + 1 < S.length := by have := hn.out; omega
    obtain ⟨b, off, hab, hBb, x0, x1, x2⟩ := ReadE.at3 (h.out.below hb.out) (k + 1) (by rw [hlm.out]; exact hjl)
    simp only [Option.some.injEq, Addr.mk.injEq, and_true] at hab
    obtain ⟨rfl, rfl⟩ := hab
    obtain ⟨bq, hbq, hbef, -⟩ := hgood.out.back (k + 1) (by omega) hjl
    have hlet := hgood.out.lets (k + 1) hjl
    obtain ⟨b, off, hab, -, xb, -, -⟩ := ReadE.at3 (h.out.below hb.out) bq (by rw [hlm.out]; omega)
    simp only [Option.some.injEq, Addr.mk.injEq, and_true] at hab
    obtain ⟨rfl, rfl⟩ := hab
    rw [getD_map1] at x0 x1 x2 xb
    rw [hbef] at x2
    have hnx : (trA S).take (k + 1) = (trA S).take k ++ [eB (S.getD bq d0).1.1 (S.getD (k + 1) d0).1.2.1 (S.getD (k + 1) d0).1.1] := by
     rw [trA_take hjl]; unfold eA; rw [hbef, Int.toNat_natCast]
    obtain ⟨y, hy⟩ := exq ((S.getD (k + 1) d0).1.1)
    obtain ⟨l, hll⟩ := exq ((S.getD (k + 1) d0).1.2.1)
    obtain ⟨x, hx⟩ := exq ((S.getD bq d0).1.1)
    rw [← hy] at x0 hnx
    rw [← hll] at x1 hnx hlet
    rw [← hx] at xb hnx
    obtain ⟨ef, el, et, hee⟩ : ∃ f l' t, eB x l y = (f, l', t) := ⟨_, _, _, rfl⟩
    obtain ⟨TK, hTK⟩ := exq ((trA S).take k)
    have hTKl : TK.length ≤ 40 := by rw [hTK, List.length_take]; omega
    rw [← hTK] at hst
    obtain ⟨w4, hw4⟩ := exq (wr.alloc (.cells #[.int .i64 y, .int .i64 l, .int .i64 (bq : Int)] 99))
    have hb4 : Below wr.heap.size wr w4 := by rw [hw4]; exact (Below.refl _ _).alloc (Nat.le_refl _) _
    have hs4 : w4.heap.size = wr.heap.size + 1 := by rw [hw4]; simp
    obtain ⟨c0, c1, c2⟩ := box3 hw4
    obtain ⟨wd, hwd⟩ := exq w4.drew
    have hbd : Below w4.heap.size w4 wd := by rw [hwd]; exact below_dn (Below.refl _ _) 1
    have hsd : wd.heap.size = w4.heap.size := by rw [hwd]; rfl
    have cb := below_cell xb hb4 (by omega)
    replace c0 := below_cell c0 hbd (by omega)
    replace c1 := below_cell c1 hbd (by omega)
    replace c2 := below_cell c2 hbd (by omega)
    replace cb := below_cell cb hbd (by omega)
    have hown4 : Hid (OwnsE w4 w.heap.size (.slice ua um uc) TK) := hidI (OwnsS.later hst.out hb4 (Nat.le_refl _))
    have hvk : Hid (∀ q, (Value.slice ua um uc).ownBlock = some q → w.heap.size ≤ q ∧ q < wr.heap.size) := hidI (fun q hq => World.ownsRow.lt hst.out q hq)
    have hcall := between_edge wd x l y (by omega) (by omega)
    rw [hee] at hcall
    have hbqn : bq < n := by omega
    have hbqi : (bq : Int) < (n : Int) := by omega
    have hoff : oF + (k + 1) * 3 = oF + 3 + k * 3 := by omega
    have hoff1 : oF + (k + 1) * 3 + 1 = oF + 3 + k * 3 + 1 := by omega
    have hoff2 : oF + (k + 1) * 3 + 2 = oF + 3 + k * 3 + 2 := by omega
    rw [hoff] at x0
    rw [hoff1] at x1
    rw [hoff2] at x2
    clear hoff hoff1 hoff2
    replace hb4 := hidI hb4
    replace hbd := hidI hbd
    replace hwd := hidI hwd
    replace hTK := hidI hTK
    replace hTKl := hidI hTKl
    replace hnx := hidI hnx
    replace hee := hidI hee
    replace hy := hidI hy
    replace hll := hidI hll
    replace hx := hidI hx
    replace hst := hidI hst
    replace hk := hidI hk
    replace hbef := hidI hbef
    replace hlet := hidI hlet
    replace hs4h := hidI hs4
    go_upto_region 5 with fail
    rw [← hw4]
    replace hw4 := hidI hw4
    clear x0 x1 x2 xb
    go_wp2
    refine hideQ (fun _ _ d _ _ h => by cases d <;> exact h) (fun Q' hnorm hpan => ?_)
    refine wp_region_held_drew (S := (fun W0 => W0.cell? ⟨wr.heap.size, 0, none⟩ = some (.int .i64 y) ∧ W0.cell? ⟨wr.heap.size, 1, none⟩ = some (.int .i64 l) ∧ W0.cell? ⟨wr.heap.size, 2, none⟩ = some (.int .i64 (bq : Int)) ∧ W0.cell? ⟨bF, oF + bq * 3, none⟩ = some (.int .i64 x))) (by kernel_rfl) ?_ (fun hHeld => ?_)
    · try dsimp only
      first | ((repeat' apply And.intro) <;> assumption) | (rw [← hwd.out]; ((repeat' apply And.intro) <;> assumption))
    rw [← hwd.out] at hHeld ⊢
    refine tk 0 13 ?_
    refine tk 1 14 ?_
    refine tk 2 15 ?_
    refine tk 3 16 ?_
    refine tk 4 17 ?_
    refine tk 5 18 ?_
    refine tk 6 19 ?_
    refine tk 7 20 ?_
    refine tk 8 21 ?_
    refine tk 9 22 ?_
    refine tk 10 23 ?_
    refine rd 11 (fun K hK => ?_)
    rw [if_pos (by rfl)]
    go_simp
    go_at_call 84
    (with_reducible refine hcall.mono ?_)
    rintro e w5 ⟨rfl, hb5⟩
    replace c0 := below_cell c0 hb5 (by omega)
    replace c1 := below_cell c1 hb5 (by omega)
    replace c2 := below_cell c2 hb5 (by omega)
    replace cb := below_cell cb hb5 (by omega)
    have hs5 := hb5.size
    have hb5h := hidI hb5
    clear hb5
    refine hK.out _ _ ?_ (fun hHeld => ?_)
    · try dsimp only
      first | ((repeat' apply And.intro) <;> assumption) | (rw [← hwd.out]; ((repeat' apply And.intro) <;> assumption))
    clear hK
    try simp only [Act.put, lyA, lyB, lyC]
    refine rd 12 (fun K hK => ?_)
    rw [if_pos (by rfl)]
    go_simp
    obtain ⟨w6, hw6⟩ := exq (w5.alloc (.cells #[.int .i64 ef, .int .i64 el, .int .i64 et] 36))
    have hb6 : Below w5.heap.size w5 w6 := by rw [hw6]; exact (Below.refl _ _).alloc (Nat.le_refl _) _
    have hh6 := heap_alloc_new w5 (.cells #[.int .i64 ef, .int .i64 el, .int .i64 et] 36)
    rw [← hw6] at hh6
    have hs6 : w6.heap.size = w5.heap.size + 1 := by rw [hw6]; simp
    rw [← hw6]
    replace hw6 := hidI hw6
    replace c0 := below_cell c0 hb6 (by omega)
    replace c1 := below_cell c1 hb6 (by omega)
    replace c2 := below_cell c2 hb6 (by omega)
    replace cb := below_cell cb hb6 (by omega)
    replace hh6 := hidI hh6
    have hb6h := hidI hb6
    clear hb6
    refine hK.out _ _ ?_ (fun hHeld => ?_)
    · try dsimp only
      first | ((repeat' apply And.intro) <;> assumption) | (rw [← hwd.out]; ((repeat' apply And.intro) <;> assumption))
    clear hK
    try simp only [Act.put, lyA, lyB, lyC]
    refine rd 13 (fun K hK => ?_)
    rw [if_pos (by rfl)]
    skip
    have hown6 : OwnsE w6 w.heap.size (.slice ua um uc) TK := OwnsS.later (OwnsS.later (OwnsS.later hown4.out hbd.out (Nat.le_refl _)) hb5h.out (by omega)) hb6h.out (Nat.le_refl _)
    refine step_pushE_at _ _ rfl w.heap.size (.slice ua um uc) TK (ef, el, et) w5.heap.size rfl rfl hown6 hh6.out (by have := hTKl.out; omega) (by omega) ?_
    intro v7 w7 hown7 hg7 hat7
    have hs7 := hg7.size
    have hkp : ∀ q, q < w.heap.size ∨ q = wr.heap.size → w7.heap[q]? = w6.heap[q]? := fun q hq => hg7.block q (by omega) (fun e => by have := hvk.out q e.symm; omega)
    have hst7 : Hid (OwnsE w7 w.heap.size v7 ((trA S).take (k + 1))) := hidI (by rw [hnx.out, ← hTK.out, hee.out]; exact hown7)
    have hb27 : Hid (Below w.heap.size w w7) := hidI (((((hb.out.trans (hb4.out.mono hsz)).trans (hbd.out.mono (by omega))).trans (hb5h.out.mono (by omega))).trans (hb6h.out.mono (by omega))).grown hg7 (by omega) (fun q hq => (hvk.out q hq).1))
    have k0 := (World.cell?_of_block (a := (⟨wr.heap.size, 0, none⟩ : Addr)) (hkp wr.heap.size (.inr rfl))).trans c0
    have k1 := (World.cell?_of_block (a := (⟨wr.heap.size, 1, none⟩ : Addr)) (hkp wr.heap.size (.inr rfl))).trans c1
    have k2 := (World.cell?_of_block (a := (⟨wr.heap.size, 2, none⟩ : Addr)) (hkp wr.heap.size (.inr rfl))).trans c2
    have kb := (World.cell?_of_block (a := (⟨bF, oF + bq * 3, none⟩ : Addr)) (hkp bF (.inl hBF))).trans cb
    replace c0 := k0
    replace c1 := k1
    replace c2 := k2
    replace cb := kb
    clear hown7 hg7 hat7 hkp k0 k1 k2 kb
    refine hK.out _ _ ?_ (fun hHeld => ?_)
    · try dsimp only
      first | ((repeat' apply And.intro) <;> assumption) | (rw [← hwd.out]; ((repeat' apply And.intro) <;> assumption))
    clear hK
    try simp only [Act.put, lyA, lyB, lyC]
    refine tk 14 3 ?_
    refine wpAnyH_done (by kernel_rfl) ?_ _
    refine hnorm _ _ ?_
    clear hnorm hpan
    repeat clear hHeld
    try simp only [Exit.then]
    go_wp2
    go_roundg (n - 1 - (k + 1))
    case rel => exact ⟨k + 1, by have := hk.out; omega, by go_num, hst7, hb27⟩
    case measure => have := hk.out; omega
  · obtain rfl : k = n - 1 := by omega
    have hki : ¬ ((n - 1 : Nat) : Int) < ((n - 1 : Nat) : Int) := by omega
    have hfull : (trA S).take (n - 1) = trA S := List.take_of_length_le (by have := htl.out; omega)
    rw [hfull] at hst
    have hsort := sort_all wr w.heap.size (.slice ua um uc) (trA S) hst.out hsz (by have := htl.out; omega)
    replace hfull := hidI hfull
    replace hk := hidI hk
    go_wp2_with fail
    refine hsort.mono ?_
    rintro e w5 ⟨rfl, hb5, ds, hp, hs, hown5⟩
    clear hsort
    have hds : ds = F := by rw [hF.out]; exact sort_nodup hp hs (trA_nodup hgood.out hnd.out)
    subst hds
    have hdl : ds.length ≤ 40 := by have := hp.length_eq; have := htl.out; omega
    have hr := hidI (show LwEdges w ds (.returned (.slice ua um uc)) w5 from lwEdges_owns hown5 (hb.out.trans hb5) (Nat.le_refl _) (by omega))
    clear hp hs hown5 hb5 hdl
    go_wp2
    go_ret
    exact hr.out
set_option maxHeartbeats 1600000 in
theorem progTreeE (w : World) (r s : Int) (v : Value) (es : List Ed) (h : ReadE w.heap.size w v es) (hl : es.length ≤ 10000000) :
 Calls Tryz.prog 7 #[.agg #[.int .i64 r, .int .i64 s, v]] w (LwEdges w (trE r s es)) := by
 obtain ⟨a, cap, rfl, hnc⟩ := h.form
 obtain ⟨n, hn⟩ := exq es.length
 rw [← hn] at hl hnc ⊢
 rw [← hn] at h
 obtain ⟨w1, hw1⟩ := exq (w.alloc (.cells #[.int .i64 r, .int .i64 s, .slice a n cap] 26))
 have hb1 : Below w.heap.size w w1 := by rw [hw1]; exact (Below.refl _ _).alloc (Nat.le_refl _) _
 obtain ⟨g0, g1, g2⟩ := box3 hw1
 have hct := treeIn_any w1 r s (.slice a n cap) es ((h.below hb1).mono hb1.size) (by omega)
 obtain ⟨F, hF⟩ := exq (trE r s es)
 rw [← hF]
 replace hF := hidI hF
 replace hn := hidI hn
 replace h := hidI h
 have hw1' := hidI hw1.symm
 replace hw1 := hidI hw1
 go_enter Tryz.func7, Tryz.ntmps7
 go_upto_region 1 with fail
 rw [hw1'.out]
 go_wp2_with fail
 refine hct.mono ?_
 rintro e w2 (⟨hf, vF, rfl, hread, hb2⟩ | ⟨hf, rfl, hb2⟩)
 case inr =>
  have hfin : Hid (LwEdges w F (.returned (.slice none 0 0)) w2) := hidI (by
   have : F = [] := by rw [hF.out]; unfold trE; rw [hf]; rfl
   rw [this]
   exact lwEdges_owns (OwnsS.nil _ _) (hb1.trans (hb2.mono hb1.size)) (Nat.le_refl _) (by simp))
  clear hct g0 g1 g2
  replace hf := hidI hf
  go_wp2
  go_ret
  exact hfin.out
 have hlim := fo_lim hf
 have hgood := foundA_good hf (u := 0) (by omega)
 have hnd : (vts (foundA r es 0)).Nodup := nd_arrN _ _ _ _
 have hce := edges_any w2 s.toNat 0 vF _ hread hgood hnd (by have := hgood.length; omega)
 rw [show putAll [] (trA (foundA r es 0)) = F by rw [hF.out]; unfold trE; rw [hf]; rfl] at hce
 have hb12 := hidI (hb1.trans (hb2.mono hb1.size))
 clear hct g0 g1 g2 hread hb2
 replace hf := hidI hf
 replace hlim := hidI hlim
 replace hgood := hidI hgood
 replace hnd := hidI hnd
 go_wp2_with fail
 refine hce.mono ?_
 rintro e w3 ⟨a3, c3, rfl, hrow, hb3⟩
 have hr : Hid (LwEdges w F (.returned (.slice a3 F.length c3)) w3) := hidI ⟨a3, c3, rfl, hrow.wide hb12.out.size (Nat.le_refl _), hb12.out.trans (hb3.mono hb12.out.size)⟩
 obtain ⟨m3, hm3⟩ := exq F.length
 rw [← hm3] at hr ⊢
 replace hm3 := hidI hm3
 clear hce hrow hb3
 go_wp2
 go_ret
 exact hr.out
end Go.Proofs.YtgnomlcjikfdhaaGreat
namespace Go.Proofs.YtgnomlcjikfdhaaGreat
open Go.RowKit Go.Shelf Go.Lib
set_option linter.unusedVariables false
set_option linter.unusedSimpArgs false
def encEd (x : Ed) : List Value := [.int .i64 x.1, .int .i64 x.2.1, .int .i64 x.2.2]
theorem eqEdL : EqlAt Tryz.prog 36 (fun x => .agg (encEd x).toArray) (fun x y => x.1 == y.1 && (x.2.1 == y.2.1 && x.2.2 == y.2.2)) := by
 refine ⟨fun x y w => ?_, GuardAt.agg _ (by kernel_rfl)⟩
 have u3 := Tryz.underlying3
 have a3 := Tryz.isAgg3
 have z3 := Tryz.sizeOf3
 have hS : Tryz.prog.underlying 36 = some (.struct (Tryz.prog.fieldsOf 36)) := by kernel_rfl
 have hp : Tryz.prog.stoodInHeld 36 = false := by kernel_rfl
 simp only [encEd]
 rw [run_eql_struct, show (10000 : Nat) = 9999 + 1 from rfl, run_equalIn_agg w 9999 36 _ _ hS hp]
 simp only [Program.fieldsOf, Tryz.underlying36]
 go_simp
 by_cases h1 : x.1 = y.1 <;> by_cases h2 : x.2.1 = y.2.1 <;> by_cases h3 : x.2.2 = y.2.2 <;> simp [h1, h2, h3]
theorem hasE_cells (w : World) (b off n c : Nat) (l : List Ed) (e : Ed) (h : ReadE w.heap.size w (.slice (some ⟨b, off, none⟩) n c) l) (hn : l.length = n) (hl : n ≤ 1000000000) :
 Calls Tryz.prog 52 #[.slice (some ⟨b, off, none⟩) n c, .agg #[.int .i64 e.1, .int .i64 e.2.1, .int .i64 e.2.2]] w fun e' w' => e' = .returned (.bool (decide (e ∈ l))) ∧ Below w.heap.size w w' := by
 have hc := AnyQ.slices_Contains Tryz.ctnE 3 Tryz.isAgg36 Tryz.sizeOf36 encEd (fun _ => rfl) _ eqEdL b off n c l e w (by omega) (by omega) (fun j hj i v hv => by
  obtain ⟨b', off', e, _, c0, c1, c2⟩ := ReadE.at3 h j hj
  simp only [Option.some.injEq, Addr.mk.injEq, and_true] at e
  obtain ⟨rfl, rfl⟩ := e
  have hg : l[j]! = l.getD j e0 := by rw [getElem!_pos l j hj, List.getD_eq_getElem?_getD, List.getElem?_eq_getElem hj]; rfl
  rw [hg] at hv
  unfold encEd at hv
  match i, hv with
  | 0, hv => simp at hv; subst hv; simpa using c0
  | 1, hv => simp at hv; subst hv; simpa using c1
  | 2, hv => simp at hv; subst hv; simpa using c2)
 change Calls Tryz.prog 52 _ _ _ at hc
 refine hc.mono ?_
 rintro e' w' ⟨rfl, hb⟩
 refine ⟨?_, hb⟩
 congr 2
 rw [← hn, List.take_length, Bool.eq_iff_iff, List.any_eq_true, decide_eq_true_eq]
 constructor
 · rintro ⟨x, hx, hxe⟩
   simp only [Bool.and_eq_true, beq_iff_eq] at hxe
   have : e = x := Prod.ext hxe.1 (Prod.ext hxe.2.1 hxe.2.2)
   rw [this]; exact hx
 · intro hx
   exact ⟨e, hx, by simp⟩
theorem indexE_nil (w : World) (a : Option Addr) (c : Nat) (f l t : Int) :
 Calls Tryz.prog 88 #[.slice a 0 c, .agg #[.int .i64 f, .int .i64 l, .int .i64 t]] w fun e w' => e = .returned (.int .i64 (-1)) ∧ Below w.heap.size w w' := by
 obtain ⟨w1, hw1⟩ := exq (w.alloc (.cells #[.int .i64 f, .int .i64 l, .int .i64 t] 36))
 have hb : Below w.heap.size w w1 := by rw [hw1]; exact (Below.refl _ _).alloc (Nat.le_refl _) _
 go_enter Tryz.func88, Tryz.ntmps88
 go_upto_region 1 with fail
 rw [← hw1]
 replace hw1 := hidI hw1
 go_wp2
 go_loopg [8] 0 (fun g i wr => i = .int .i64 0 ∧ g = 0 ∧ Hid (wr = w1))
 case atStart => exact ⟨rfl, rfl, hidI rfl⟩
 case round =>
  obtain ⟨rfl, hg, hwr⟩ := hrel
  have hwr' := hwr.out
  subst hwr'
  replace hg := hidI hg
  replace hwr := hidI hwr.out
  go_wp2
  go_ret
  exact ⟨rfl, hb⟩
theorem containsE_nil (w : World) (a : Option Addr) (c : Nat) (f l t : Int) :
 Calls Tryz.prog 52 #[.slice a 0 c, .agg #[.int .i64 f, .int .i64 l, .int .i64 t]] w fun e w' => e = .returned (.bool false) ∧ Below w.heap.size w w' := by
 obtain ⟨w1, hw1⟩ := exq (w.alloc (.cells #[.int .i64 f, .int .i64 l, .int .i64 t] 36))
 have hb : Below w.heap.size w w1 := by rw [hw1]; exact (Below.refl _ _).alloc (Nat.le_refl _) _
 obtain ⟨c0, c1, c2⟩ := box3 hw1
 have hix := indexE_nil w1 a c f l t
 have hs : w.heap.size ≤ w1.heap.size := hb.size
 go_enter Tryz.func52, Tryz.ntmps52
 go_upto_region 1 with fail
 rw [← hw1]
 replace hw1 := hidI hw1
 go_wp2_with fail
 refine hix.mono ?_
 rintro e w2 ⟨rfl, hb2⟩
 have hb02 := hb.trans (hb2.mono hs)
 clear c0 c1 c2
 go_wp2
 go_ret
 exact ⟨rfl, hb02⟩
theorem hasE_any (w : World) (B : Nat) (v : Value) (l : List Ed) (e : Ed) (hB : B ≤ w.heap.size) (h : ReadE B w v l) (hl : l.length ≤ 1000000000) :
 Calls Tryz.prog 52 #[v, .agg #[.int .i64 e.1, .int .i64 e.2.1, .int .i64 e.2.2]] w (LwBool w (decide (e ∈ l))) := by
 replace h := h.mono hB
 obtain ⟨a, c, rfl, _⟩ := h.form
 rcases Nat.eq_zero_or_pos l.length with h0 | h0
 · have : l = [] := List.length_eq_zero_iff.1 h0
   subst this
   refine (containsE_nil w a c e.1 e.2.1 e.2.2).mono ?_
   rintro e' w' ⟨rfl, hb⟩
   exact ⟨by simp, hb⟩
 · obtain ⟨b, off, rfl, _, _⟩ := ReadE.at3 h 0 h0
   refine (hasE_cells w b off l.length c l e h rfl hl).mono ?_
   rintro e' w' ⟨rfl, hb⟩
   exact ⟨rfl, hb⟩
end Go.Proofs.YtgnomlcjikfdhaaGreat
